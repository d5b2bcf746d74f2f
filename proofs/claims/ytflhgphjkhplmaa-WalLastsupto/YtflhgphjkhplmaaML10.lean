import Derived.Test.YtflhgphjkhplmaaML09
import Derived.Test.YtflhgphjkhplmaaML06
import Derived.BigQuiet
/- Keeps as they lie; what is wrong of them; a crash, plain. -/
namespace Go.Proofs.Ytflhgphjkhplmaa.D
open Go.RowKit
set_option linter.unusedVariables false
set_option linter.unusedSimpArgs false

variable {w w' : World} {D : Nat} {F : Nat → Prop} {sy : Int} {dl : List Fd} {s : List UInt8} {P : Nat → Prop}
abbrev Kn := List UInt8 × List Int
theorem cell_same {w w' : World} {b o : Nat} (h : w'.heap[b]? = w.heap[b]?) : w'.cell? ⟨b, o, none⟩ = w.cell? ⟨b, o, none⟩ := by simp [World.cell?, h]
def NumsP (P : Nat → Prop) (w : World) (v : Value) (ns : List Int) : Prop := ∃ a cap, v = .slice a ns.length cap ∧ ns.length ≤ cap ∧ ∀ (i : Nat) (x : Int), ns[i]? = some x → ∃ b off, a = some ⟨b, off, none⟩ ∧ P b ∧ w.cell? ⟨b, off + i, none⟩ = some (iV x)
/-- Keeps as they lie, all in blocks of P. -/
def KeepsAt (P : Nat → Prop) (w : World) (v : Value) (ks : List Kn) : Prop := ∃ a cap, v = .slice a ks.length cap ∧ ks.length ≤ cap ∧ ∀ (i : Nat) (x : Kn), ks[i]? = some x → (x.2.length : Int) ≤ 140737488351232 ∧ ∃ b off nv, a = some ⟨b, off, none⟩ ∧ P b ∧ w.cell? ⟨b, off + i * 2, none⟩ = some (.string (tx x.1)) ∧ w.cell? ⟨b, off + i * 2 + 1, none⟩ = some nv ∧ NumsP P w nv x.2
theorem NumsP.at' {v : Value} {ns : List Int} (h : NumsP P w v ns) (hk : ∀ q, P q → w'.heap[q]? = w.heap[q]?) : NumsP P w' v ns := by
  obtain ⟨a, cap, h1, h2, h3⟩ := h
  refine ⟨a, cap, h1, h2, fun i x hi => ?_⟩
  obtain ⟨b, off, e1, e2, e3⟩ := h3 i x hi
  exact ⟨b, off, e1, e2, (cell_same (hk b e2)).trans e3⟩
theorem NumsP.nums {v : Value} {ns : List Int} (h : NumsP P w v ns) (hP : ∀ q, P q → q < w.heap.size) : NumsAt w v ns := by
  obtain ⟨a, cap, h1, h2, h3⟩ := h
  refine ⟨a, cap, h1, h2, fun i x hi => ?_⟩
  obtain ⟨b, off, e1, e2, e3⟩ := h3 i x hi
  exact ⟨b, off, e1, hP b e2, e3⟩
theorem KeepsAt.at' {v : Value} {ks : List Kn} (h : KeepsAt P w v ks) (hk : ∀ q, P q → w'.heap[q]? = w.heap[q]?) : KeepsAt P w' v ks := by
  obtain ⟨a, cap, h1, h2, h3⟩ := h
  refine ⟨a, cap, h1, h2, fun i x hi => ?_⟩
  obtain ⟨e0, b, off, nv, e1, e2, e3, e4, e5⟩ := h3 i x hi
  exact ⟨e0, b, off, nv, e1, e2, (cell_same (hk b e2)).trans e3, (cell_same (hk b e2)).trans e4, e5.at' hk⟩
/-- Where a name stands among the Keeps. -/
def kIx (s : List UInt8) : List Kn → Nat → Option Nat
  | [], _ => none
  | k :: r, i => if s = k.1 then some i else kIx s r (i + 1)
def kNs (s : List UInt8) (ks : List Kn) : List Int := match kIx s ks 0 with | some i => (ks.getD i ([], [])).2 | none => []
def entK : List Kn → Nat → List Ent
  | [], _ => []
  | k :: r, i => (tx k.1, .int .i64 (i : Int), i) :: entK r (i + 1)
theorem entK_app : ∀ (a : List Kn) (k : Kn) (i : Nat), entK (a ++ [k]) i = entK a i ++ [(tx k.1, .int .i64 ((i + a.length : Nat) : Int), i + a.length)]
  | [], k, i => by simp [entK]
  | x :: r, k, i => by
    rw [List.cons_append, entK, entK_app r k (i + 1)]
    simp [entK, Nat.add_comm, Nat.add_left_comm, Nat.add_assoc]
theorem fnd_entK (s : List UInt8) : ∀ (ks : List Kn) (i j : Nat), fnd (tx s) (entK ks i) j = (kIx s ks i).map fun q => (q - i + j, .int .i64 (q : Int))
  | [], i, j => rfl
  | k :: r, i, j => by
    rw [entK, fnd, kIx]
    dsimp only
    rw [tx_beq]
    by_cases h : s = k.1
    · simp [h]
    · simp only [h, decide_false, Bool.false_eq_true, if_false]
      rw [fnd_entK s r (i + 1) (j + 1)]
      cases hk : kIx s r (i + 1) with
      | none => rfl
      | some q =>
        have : i + 1 ≤ q := by
          clear fnd_entK
          revert hk
          have : ∀ (r : List Kn) (i q : Nat), kIx s r i = some q → i ≤ q := fun r => by
            induction r with
            | nil => intro i q h; simp [kIx] at h
            | cons x r ih =>
              intro i q h
              unfold kIx at h
              split at h
              · have := Option.some.inj h; omega
              · have := ih _ _ h; omega
          exact fun hk => this r (i + 1) q hk
        simp
        omega
theorem kIx_none {s : List UInt8} : ∀ {ks : List Kn} {i : Nat}, kIx s ks i = none ↔ s ∉ ks.map Prod.fst
  | [], i => by simp [kIx]
  | k :: r, i => by
    unfold kIx
    by_cases h : s = k.1
    · simp [h]
    · rw [if_neg h, kIx_none (ks := r)]
      simp [h]
theorem kIx_some {s : List UInt8} : ∀ {ks : List Kn} {i q : Nat}, kIx s ks i = some q → i ≤ q ∧ ∃ k, ks[q - i]? = some k ∧ k.1 = s
  | [], i, q, h => by simp [kIx] at h
  | x :: r, i, q, h => by
    unfold kIx at h
    split at h
    · rename_i e
      obtain rfl := Option.some.inj h
      exact ⟨Nat.le_refl _, x, by simp, e.symm⟩
    · obtain ⟨h1, k, h2, h3⟩ := kIx_some h
      refine ⟨by omega, k, ?_, h3⟩
      rw [show q - i = (q - (i + 1)) + 1 by omega, List.getElem?_cons_succ]
      exact h2
theorem kIx_lt {s : List UInt8} {ks : List Kn} {q : Nat} (h : kIx s ks 0 = some q) : q < ks.length ∧ ∃ k, ks[q]? = some k ∧ k.1 = s ∧ kNs s ks = k.2 := by
  obtain ⟨-, k, h2, h3⟩ := kIx_some h
  refine ⟨(List.getElem?_eq_some_iff.1 h2).1, k, h2, h3, ?_⟩
  unfold kNs
  rw [h]
  dsimp only
  rw [List.getD_eq_getElem?_getD, show q = q - 0 by rfl, h2]
  rfl
/-- What is wrong of Keeps, from the left. -/
def wrE (dl : List Fd) : List Kn → List Kn → Int
  | _, [] => 0
  | seen, k :: r => if k.1 ∈ seen.map Prod.fst then 6 else if ckE dl k.1 k.2 = 0 then wrE dl (seen ++ [k]) r else ckE dl k.1 k.2
theorem drop_at {α : Type} {l : List α} {j : Nat} {x : α} (h : l[j]? = some x) : l.drop j = x :: l.drop (j + 1) ∧ l.take (j + 1) = l.take j ++ [x] := by
  obtain ⟨h1, h2⟩ := List.getElem?_eq_some_iff.1 h
  refine ⟨?_, ?_⟩
  · rw [List.drop_eq_getElem_cons h1, h2]
  · rw [List.take_add_one, h]; rfl
theorem wrE_step {ks : List Kn} {j : Nat} {k : Kn} (h : ks[j]? = some k) : wrE dl (ks.take j) (ks.drop j) = if k.1 ∈ (ks.take j).map Prod.fst then 6 else if ckE dl k.1 k.2 = 0 then wrE dl (ks.take (j + 1)) (ks.drop (j + 1)) else ckE dl k.1 k.2 := by
  obtain ⟨h1, h2⟩ := drop_at h
  rw [h1, wrE, h2]
/-- A disk behind a crash. -/
def crF (ks : List Kn) (x : Fd) : Fd := ⟨x.nm, crB x.b x.ws (kNs x.nm ks), []⟩
def crD (ks : List Kn) (dl : List Fd) : List Fd := dl.map (crF ks)
def crA (dl : List Fd) (ks : List Kn) : List Fd := if wrE dl [] ks = 0 then crD ks dl else dl
abbrev MapI := Go.Proofs.Ytflhgphjkhplmaa.MapAt
/-- What a crash's range keeps. -/
structure RI (w wx : World) (D M r K c : Nat) (es : List En) (sy : Int) (dl : List Fd) (ks : List Kn) (F : Nat → Prop) (seen : Array Nat) : Prop where
  it : wx.heap[r]? = some (.mapIter (some K) c seen c)
  ix : ∃ k, MapI wx M (entK ks 0) k
  mp : MapAt wx K es c
  ex : ∃ tl, DX wx D K sy tl ∧ (prs es).Perm (mlT tl) ∧ (tl.map pl) = dl.map (fun x => if x.nm ∈ (rest es seen).map En.nm then x else crF ks x) ∧ (∀ q, CF D K tl q → (F q ∨ w.heap.size ≤ q) ∧ q ≠ M ∧ q ≠ r)
  fr : wx.os = w.os ∧ wx.tape = w.tape ∧ wx.output = w.output ∧ w.heap.size ≤ wx.heap.size
  bl : ∀ q, q < w.heap.size → ¬ F q → wx.heap[q]? = w.heap[q]?
  lo : r < wx.heap.size ∧ M < wx.heap.size ∧ w.heap.size ≤ r ∧ w.heap.size ≤ M
theorem map_put {α : Type} [DecidableEq α] {β : Type} (nm : β → α) (new : β) : ∀ (a : List β) (t : β) (b : List β), ((a ++ t :: b).map nm).Nodup → a ++ new :: b = (a ++ t :: b).map (fun y => if nm y = nm t then new else y)
  | [], t, b, h => by
    rw [List.nil_append, List.nil_append, List.map_cons, if_pos rfl]
    congr 1
    conv => lhs; rw [← List.map_id b]
    refine List.map_congr_left fun y hy => ?_
    rw [if_neg]
    · rfl
    · intro e
      exact (List.nodup_cons.1 (show (nm t :: b.map nm).Nodup from h)).1 (e ▸ List.mem_map_of_mem hy)
  | x :: a, t, b, h => by
    have h2 := List.nodup_cons.1 (show (nm x :: (a ++ t :: b).map nm).Nodup from h)
    rw [List.cons_append, List.cons_append, List.map_cons, if_neg, map_put nm new a t b h2.2]
    intro e
    exact h2.1 (e ▸ List.mem_map_of_mem (by simp))
/-- One more file is crashed. -/
theorem RI.step {V wx : World} {M r K c : Nat} {es : List En} {ks : List Kn} {seen : Array Nat} (h : RI w wx D M r K c es sy dl ks F seen) {e : En} (he : e ∈ es) (hpr : (rest es seen).Perm (e :: rest es (seen.push e.born))) (hoff : ∀ q, q ≠ r → V.heap[q]? = wx.heap[q]?) (hit : V.heap[r]? = some (.mapIter (some K) c (seen.push e.born) c)) (o1 : V.os = wx.os) (o2 : V.tape = wx.tape) (o3 : V.output = wx.output) (o4 : V.heap.size = wx.heap.size)
    (hr : K ≠ r ∧ M ≠ r ∧ K ≠ M) (hnd : (dl.map Fd.nm).Nodup) (hnde : (es.map En.nm).Nodup) (hl : ∀ x ∈ dl, x.b.length ≤ 2000000 ∧ x.ws.length ≤ 2000000 ∧ WsOk x.b.length x.ws) {nv : Value} (hn : NumsAt V nv (kNs e.nm ks)) (hnl : ((kNs e.nm ks).length : Int) ≤ 140737488351232) :
    Calls Try.prog 70 #[.pointer (some ⟨e.q, 0, none⟩), nv] V fun x w3 => (∃ v, x = .returned v) ∧ Hid (RI w w3 D M r K c es sy dl ks F (seen.push e.born)) := by
  obtain ⟨tl, k1, k2, k3, k4⟩ := h.ex
  have hrest : e.nm ∈ (rest es seen).map En.nm := (hpr.map En.nm).mem_iff.2 (by simp)
  have hV : DX V D K sy tl := k1.at' fun q hq => hoff q (k4 q hq).2.2
  obtain ⟨t, ht, t1, t2, t3⟩ := k1.entry (List.Perm.refl (tl.map pl)) k2 he
  obtain ⟨a, b, rfl⟩ := List.append_of_mem ht
  obtain ⟨x, hx, hpx⟩ : ∃ x ∈ dl, (if x.nm ∈ (rest es seen).map En.nm then x else crF ks x) = pl t := by
    have h1 : pl t ∈ (a ++ t :: b).map pl := List.mem_map.2 ⟨t, ht, rfl⟩
    rw [k3] at h1
    exact List.mem_map.1 h1
  have hxn : x.nm = e.nm := by
    have h1 : (pl t).nm = e.nm := t1
    rw [← hpx] at h1
    split at h1
    · exact h1
    · exact h1
  rw [if_pos (by rw [hxn]; exact hrest)] at hpx
  subst hpx
  obtain ⟨l1, l2, l3⟩ := hl _ hx
  have hlt := hV.lt
  rw [← t2]
  refine (crash_any (hV.lr t ht) l1 l2 l3 hn hnl).mono ?_
  rintro y w3 ⟨hy, G', g1, g2⟩
  refine ⟨hy, ?_⟩
  obtain ⟨m1, m2⟩ := hV.turn g1 g2
  have hnF : ∀ q, t.F q → CF D K (a ++ t :: b) q := fun q hq => .inr (.inr ⟨t, ht, hq⟩)
  obtain ⟨z1, z2, z3, z4⟩ := h.fr
  obtain ⟨y1, y2, y3, y4⟩ := h.lo
  have hz := g2.size
  refine ⟨(g2.block r (by omega) fun e => (k4 r (hnF r e)).2.2 rfl).trans hit, ?_, ?_, ⟨_, m1, ?_, ?_, fun q hq => ?_⟩, ⟨g2.os.trans (o1.trans z1), g2.tape.trans (o2.trans z2), g2.output.trans (o3.trans z3), by omega⟩, fun q hq hn => ?_, by omega, by omega, y3, y4⟩
  · obtain ⟨k, hk⟩ := h.ix
    exact ⟨k, ((g2.block M (by omega) fun e => (k4 M (hnF M e)).2.1 rfl).trans (hoff M hr.2.1)).trans hk⟩
  · have hKl := k1.lt K (.inr (.inl rfl))
    exact ((g2.block K (by omega) fun e => (k1.of t ht K e).2 rfl).trans (hoff K hr.1)).trans h.mp
  · have e1 : mlT (a ++ ⟨t.nm, t.L, G', crB t.b t.ws (kNs e.nm ks), []⟩ :: b) = mlT (a ++ t :: b) := by simp [mlT]
    show (prs es).Perm (mlT (a ++ ⟨t.nm, t.L, G', crB t.b t.ws (kNs e.nm ks), []⟩ :: b))
    rw [e1]
    exact k2
  · have hndr : ((rest es seen).map En.nm).Nodup := hnde.sublist ((List.filter_sublist).map _)
    have hnd2 := (hpr.map En.nm).nodup_iff.1 hndr
    rw [List.map_cons] at hnd2
    have hne := (List.nodup_cons.1 hnd2).1
    have hmem : ∀ s, s ∈ (rest es seen).map En.nm ↔ s = e.nm ∨ s ∈ (rest es (seen.push e.born)).map En.nm := fun s => by
      rw [(hpr.map En.nm).mem_iff, List.map_cons, List.mem_cons]
    have h1 : (a ++ ⟨t.nm, t.L, G', crB t.b t.ws (kNs e.nm ks), []⟩ :: b).map pl = a.map pl ++ (⟨t.nm, crB t.b t.ws (kNs e.nm ks), []⟩ : Fd) :: b.map pl := by simp [pl]
    have h2 : a.map pl ++ pl t :: b.map pl = dl.map (fun x => if x.nm ∈ (rest es seen).map En.nm then x else crF ks x) := by rw [← k3]; simp
    have hn1 : ((a.map pl ++ pl t :: b.map pl).map Fd.nm).Nodup := by
      have : (a.map pl ++ pl t :: b.map pl).map Fd.nm = (a ++ t :: b).map Tn.nm := by
        simp [pl]
        rfl
      rw [this]
      exact k1.nd
    show (a ++ ⟨t.nm, t.L, G', crB t.b t.ws (kNs e.nm ks), []⟩ :: b).map pl = _
    rw [h1, map_put Fd.nm _ _ _ _ hn1, h2, List.map_map]
    refine List.map_congr_left fun y hy => ?_
    have hpn : (pl t).nm = e.nm := t1
    simp only [Function.comp_apply]
    by_cases hye : y.nm = e.nm
    · have hyx : y = pl t := by
        have h5 := lkF_of hnd hy
        have h6 := lkF_of hnd hx
        rw [hye] at h5
        rw [hpn] at h6
        rw [h5] at h6
        exact Option.some.inj h6
      rw [if_pos ((hmem _).2 (.inl hye)), if_pos (hye.trans hpn.symm), if_neg (by rw [hye]; exact hne), hyx]
      unfold crF
      rw [hpn]
      show _ = (⟨e.nm, _, _⟩ : Fd)
      rw [← t1]
      rfl
    · have hg : (if y.nm ∈ (rest es seen).map En.nm then y else crF ks y).nm = y.nm := by split <;> rfl
      rw [if_neg (by rw [hg, hpn]; exact hye)]
      by_cases hin : y.nm ∈ (rest es (seen.push e.born)).map En.nm
      · rw [if_pos ((hmem _).2 (.inr hin)), if_pos hin]
      · rw [if_neg hin, if_neg fun e => ((hmem _).1 e).elim hye hin]
  · rcases m2.grow q hq with g | g
    · exact k4 q g
    · exact ⟨.inr (by omega), by omega, by omega⟩
  · have hnt : ¬ t.F q := fun e => by
      rcases (k4 q (hnF q e)).1 with g | g
      · exact hn g
      · omega
    rw [g2.block q (by omega) hnt, hoff q (by omega)]
    exact h.bl q hq hn
end Go.Proofs.Ytflhgphjkhplmaa.D

/- A disk crashes. -/
namespace Go.Proofs.Ytflhgphjkhplmaa.D
open Go.RowKit
set_option linter.unusedVariables false
set_option linter.unusedSimpArgs false

variable {w w' : World} {D : Nat} {F : Nat → Prop} {sy : Int} {dl : List Fd} {s : List UInt8} {P : Nat → Prop}
/-- What the loop over the Keeps keeps. -/
structure WI (w wx : World) (M : Nat) (ks : List Kn) (j : Nat) : Prop where
  be : Below w.heap.size w wx
  mp : MapI wx M (entK (ks.take j) 0) j
set_option maxRecDepth 20000 in
theorem WI.put {wx w3 : World} {M : Nat} {ks : List Kn} {j : Nat} {k : Kn} (h : WI w wx M ks j) (hb : Below wx.heap.size wx w3) (hM : w.heap.size ≤ M) (hk : ks[j]? = some k) (hn : kIx k.1 (ks.take j) 0 = none) : ∃ W4, (Instr.mapUpdate 109 (.map (some M)) (.string (tx k.1)) (.int .i64 (j : Int))).run Try.prog w3 = .ok () W4 ∧ WI w W4 M ks (j + 1) := by
  have hMlt := (Array.getElem?_eq_some_iff.1 h.mp).1
  have hm3 : MapI w3 M (entK (ks.take j) 0) j := (hb.block M hMlt).trans h.mp
  have hf : fnd (tx k.1) (entK (ks.take j) 0) 0 = none := by rw [fnd_entK, hn]; rfl
  have hlen : (ks.take j).length = j := by rw [List.length_take]; have := (List.getElem?_eq_some_iff.1 hk).1; omega
  refine ⟨_, Go.Proofs.Ytflhgphjkhplmaa.run_put_new under74 hm3 hf _, ?_, ?_⟩
  · have h3 := h.be.trans (hb.mono h.be.size)
    have hM3 := (Array.getElem?_eq_some_iff.1 hm3).1
    exact ⟨h3.os, h3.tape, h3.output, by simpa using h3.size, fun i hi => by
      show (w3.heap.setIfInBounds M _)[i]? = _
      rw [Array.getElem?_setIfInBounds_ne (by omega)]
      exact h3.block i hi⟩
  · have hM3 := (Array.getElem?_eq_some_iff.1 hm3).1
    have e : entK (ks.take (j + 1)) 0 = entK (ks.take j) 0 ++ [(tx k.1, .int .i64 (j : Int), j)] := by
      rw [(drop_at hk).2, entK_app, hlen, Nat.zero_add]
    show (w3.heap.setIfInBounds M _)[M]? = _
    rw [e]
    simp [hM3]
theorem look74 {wx : World} {M : Nat} {ks : List Kn} {c : Nat} (h : MapI wx M (entK ks 0) c) (s : List UInt8) : (Instr.lookup 109 (.map (some M)) (.string (tx s)) true).run Try.prog wx = .ok (match kIx s ks 0 with | some q => .tuple #[.int .i64 (q : Int), .bool true] | none => .tuple #[.int .i64 0, .bool false]) wx := by
  have hf := fnd_entK s ks 0 0
  cases hq : kIx s ks 0 with
  | none =>
    rw [hq] at hf
    exact run_look_none under74 (by kernel_rfl) h hf
  | some q =>
    rw [hq] at hf
    exact run_look_some under74 h hf
set_option maxRecDepth 20000 in
set_option maxHeartbeats 8000000 in
theorem crash_all (h : DR w D F sy dl) {kv : Value} {ks : List Kn} (hk : KeepsAt P w kv ks) (hP : ∀ q, P q → q < w.heap.size ∧ ¬ F q) (hl : ∀ x ∈ dl, x.b.length ≤ 2000000 ∧ x.ws.length ≤ 2000000 ∧ WsOk x.b.length x.ws) (hkl : (ks.length : Int) ≤ 140737488351232) :
    Calls Try.prog 40 #[.pointer (some ⟨D, 0, none⟩), kv] w fun e w' => e = .returned (.int .i64 (wrE dl [] ks)) ∧ Hid (∃ F', DR w' D F' sy (crA dl ks) ∧ Fr F F' w w') := by
  have HH : Hid (DR w D F sy dl ∧ (∀ q, P q → q < w.heap.size ∧ ¬ F q) ∧ ∀ x ∈ dl, x.b.length ≤ 2000000 ∧ x.ws.length ≤ 2000000 ∧ WsOk x.b.length x.ws) := ⟨h, hP, hl⟩
  have HKA : Hid (KeepsAt P w kv ks) := hk
  obtain ⟨ka, kc, rfl, hkc, -⟩ := hk
  have hmk : (Instr.makeMap 109 none).run Try.prog w = .ok (.map (some w.heap.size)) (w.alloc (.map #[] 0)) := run_makeMap 109 w
  obtain ⟨W1, hW1⟩ : ∃ W1, w.alloc (.map #[] 0) = W1 := ⟨_, rfl⟩
  rw [hW1] at hmk
  obtain ⟨M, hM⟩ : ∃ M, w.heap.size = M := ⟨_, rfl⟩
  have HM : Hid (w.heap.size = M) := hM
  have HW0 : Hid (WI w W1 M ks 0) := by
    refine ⟨by rw [← hW1]; exact bel1 _ _, ?_⟩
    rw [← hW1, ← hM]
    exact Go.heap_alloc_new _ _
  rw [hM] at hmk
  obtain ⟨n, hn⟩ : ∃ n, ks.length = n := ⟨_, rfl⟩
  have HN : Hid (ks.length = n) := hn
  rw [hn] at hkl hkc HKA ⊢
  have hkci : (n : Int) ≤ (kc : Int) := by omega
  clear h hP hl hW1 hM hn hkc
  go_enter Try.func40, Try.ntmps40
  go_wp2_with fail
  go_loopw [20, 6, 7, 8, 9, 10] (fun i _ _ _ _ _ wx => ∃ j : Nat, j ≤ n ∧ i = .int .i64 (j : Int) ∧ Hid (WI w wx M ks j ∧ wrE dl (ks.take j) (ks.drop j) = wrE dl [] ks)) (fun i _ _ _ _ _ wx => n - (intOf i).toNat)
  case atStart => exact ⟨0, Nat.zero_le _, rfl, HW0.out, rfl⟩
  case round =>
    obtain ⟨j, hj, rfl, HI⟩ := hrel
    by_cases hlt : j < n
    · obtain ⟨k, hk⟩ : ∃ k, ks[j]? = some k := ⟨_, List.getElem?_eq_getElem (by have := HN.out; omega)⟩
      have HK : Hid (ks[j]? = some k ∧ j < n) := ⟨hk, hlt⟩
      have hlt' : (j : Int) < (n : Int) := by omega
      have HKW : Hid (KeepsAt P wr (.slice ka n kc) ks) := HKA.out.at' fun q hq => HI.out.1.be.block q (HH.out.2.1 q hq).1
      obtain ⟨ka', kc', hkv, -, hcl⟩ := HKW.out
      obtain ⟨hna, -, hnc⟩ := Value.slice.inj hkv
      subst hna
      subst hnc
      obtain ⟨nl, kb, ko, nv, hkb, -, k0, k1, knv⟩ := hcl j k hk
      subst hkb
      have HNV : Hid (NumsP P wr nv k.2 ∧ (k.2.length : Int) ≤ 140737488351232) := ⟨knv, nl⟩
      have hstep := HI.out.2
      rw [wrE_step hk] at hstep
      have HST : Hid ((if k.1 ∈ (ks.take j).map Prod.fst then 6 else if ckE dl k.1 k.2 = 0 then wrE dl (ks.take (j + 1)) (ks.drop (j + 1)) else ckE dl k.1 k.2) = wrE dl [] ks) := hstep
      clear hkv hcl nl knv hstep hk hlt hj
      obtain ⟨na, nc, rfl, -⟩ := HNV.out.1
      have HR0 : Hid (∃ F', DR wr D F' sy dl ∧ Fr F F' w wr) := ⟨F, HH.out.1.newer (HM.out ▸ HI.out.1.be), Fr.newer (HM.out ▸ HI.out.1.be)⟩
      go_upto_region 7 with (fail)
      obtain ⟨W2, hW2⟩ : ∃ W2, wr.alloc (.cells #[.string (tx k.1), .slice na k.2.length nc] 86) = W2 := ⟨_, rfl⟩
      have hb2 : Below wr.heap.size wr W2 := by rw [← hW2]; exact bel1 _ _
      have hx2 : W2.heap[wr.heap.size]? = some (.cells #[.string (tx k.1), .slice na k.2.length nc] 86 (0, 0)) := by rw [← hW2]; exact Go.heap_alloc_new _ _
      have HB2 : Hid (Below wr.heap.size wr W2) := hb2
      have HM2 : Hid (MapI W2 M (entK (ks.take j) 0) j) := (hb2.block _ (Array.getElem?_eq_some_iff.1 HI.out.1.mp).1).trans HI.out.1.mp
      have HX2 : Hid (W2.heap[wr.heap.size]? = some (.cells #[.string (tx k.1), .slice na k.2.length nc] 86 (0, 0))) := hx2
      rw [hW2]
      obtain ⟨p, hp⟩ : ∃ p, wr.heap.size = p := ⟨_, rfl⟩
      have HPP : Hid (wr.heap.size = p) := hp
      rw [hp] at HX2 HB2 ⊢
      clear hW2 hb2 hx2 hp k0 k1
      have q0 : W2.cell? ⟨p, 0, none⟩ = some (.string (tx k.1)) := by rw [cell_of_row _ _ _ _ _ _ HX2.out]; rfl
      have q1 : W2.cell? ⟨p, 1, none⟩ = some (.slice na k.2.length nc) := by rw [cell_of_row _ _ _ _ _ _ HX2.out]; rfl
      have hlk := look74 HM2.out k.1
      have HBW : Hid (Below w.heap.size w W2) := HI.out.1.be.trans (HB2.out.mono (by have := HI.out.1.be.size; rw [HPP.out] at this; exact this))
      cases hix : kIx k.1 (ks.take j) 0 with
      | some q =>
        rw [hix] at hlk
        dsimp only at hlk
        have HE : Hid (wrE dl [] ks = 6) := by
          have h1 := HST.out
          have hin : k.1 ∈ (ks.take j).map Prod.fst := by
            by_cases hc : k.1 ∈ (ks.take j).map Prod.fst
            · exact hc
            · have := (kIx_none (i := 0)).2 hc
              rw [hix] at this
              cases this
          rw [if_pos hin] at h1
          exact h1.symm
        clear hix
        go_wp2_with fail
        go_ret
        refine ⟨by rw [HE.out]; rfl, F, ?_, Fr.newer HBW.out⟩
        unfold crA
        rw [if_neg (by rw [HE.out]; decide)]
        exact HH.out.1.newer HBW.out
      | none =>
        rw [hix] at hlk
        dsimp only at hlk
        have HIX : Hid (kIx k.1 (ks.take j) 0 = none) := hix
        have HS2 : Hid ((if ckE dl k.1 k.2 = 0 then wrE dl (ks.take (j + 1)) (ks.drop (j + 1)) else ckE dl k.1 k.2) = wrE dl [] ks) := by
          have h1 := HST.out
          rw [if_neg (kIx_none.1 hix)] at h1
          exact h1
        have HCK : Hid (Calls Try.prog 69 #[.pointer (some ⟨D, 0, none⟩), .agg #[.string (tx k.1), .slice na k.2.length nc]] W2 fun e w' => e = .returned (.int .i64 (ckE dl k.1 k.2)) ∧ Below W2.heap.size W2 w') := by
          refine canKeep_any (HH.out.1.newer HBW.out) (NumsP.nums (P := P) (HNV.out.1.at' fun q hq => HB2.out.block q ?_) fun q hq => ?_) HNV.out.2 fun x hx => (HH.out.2.2 x hx).2.1
          · have h1 := (HH.out.2.1 q hq).1
            have h2 := HI.out.1.be.size
            have h3 := HPP.out
            omega
          · have h1 := (HH.out.2.1 q hq).1
            have h2 := HBW.out.size
            omega
        obtain ⟨ck, hck⟩ : ∃ ck, ckE dl k.1 k.2 = ck := ⟨_, rfl⟩
        have HCE : Hid (ckE dl k.1 k.2 = ck) := hck
        rw [hck] at HCK HS2
        clear hix hck
        by_cases hc0 : ck = 0
        · subst hc0
          go_upto_region 11 with (go_at_call 69; refine HCK.out.mono ?_; rintro e W3 ⟨rfl, hb3⟩; (have HB3 : Hid (Below W2.heap.size W2 W3) := hb3); clear hb3)
          have hx3 : W3.heap[p]? = some (.cells #[.string (tx k.1), .slice na k.2.length nc] 86 (0, 0)) := (HB3.out.block p (Array.getElem?_eq_some_iff.1 HX2.out).1).trans HX2.out
          have r0 : W3.cell? ⟨p, 0, none⟩ = some (.string (tx k.1)) := by rw [cell_of_row _ _ _ _ _ _ hx3]; rfl
          obtain ⟨W4, hpu, hWI⟩ := WI.put (w := w) ⟨HBW.out, HM2.out⟩ HB3.out (Nat.le_of_eq HM.out) HK.out.1 HIX.out
          have HW4 : Hid (WI w W4 M ks (j + 1) ∧ wrE dl (ks.take (j + 1)) (ks.drop (j + 1)) = wrE dl [] ks) := ⟨hWI, by have h1 := HS2.out; rw [if_pos trivial] at h1; exact h1⟩
          clear hx3 hWI hlk q0 q1
          go_wp2_with fail
          go_roundw
          case rel => exact ⟨j + 1, by have := HK.out.2; omega, by go_num, HW4.out⟩
          case measure => have := HK.out.2; simp [intOf]; omega
        · have hcb : (ck == 0) = false := by simpa using hc0
          have HE : Hid (wrE dl [] ks = ck) := by
            have h1 := HS2.out
            rw [if_neg hc0] at h1
            exact h1.symm
          have HC0 : Hid (¬ ck = 0) := hc0
          go_wp2_with (go_at_call 69; refine HCK.out.mono ?_; rintro e W3 ⟨rfl, hb3⟩; (have HB3 : Hid (Below W2.heap.size W2 W3) := hb3); clear hb3)
          go_ret
          have hb := HBW.out.trans (HB3.out.mono HBW.out.size)
          refine ⟨by rw [HE.out]; rfl, F, ?_, Fr.newer hb⟩
          unfold crA
          rw [if_neg (by rw [HE.out]; exact HC0.out)]
          exact HH.out.1.newer hb
    · obtain rfl : j = n := by omega
      have hge : ¬ ((j : Int) < (j : Int)) := by omega
      have HE : Hid (wrE dl [] ks = 0 ∧ MapI wr M (entK ks 0) j ∧ Below w.heap.size w wr) := by
        obtain ⟨⟨h1, h2⟩, h3⟩ := HI.out
        rw [List.take_of_length_le (by have := HN.out; omega)] at h2
        rw [List.drop_of_length_le (by have := HN.out; omega)] at h3
        exact ⟨by rw [← h3]; rfl, h2, h1⟩
      have HKW : Hid (KeepsAt P wr (.slice ka j kc) ks) := HKA.out.at' fun q hq => HE.out.2.2.block q (HH.out.2.1 q hq).1
      have HR : Hid (DR wr D F sy dl) := HH.out.1.newer HE.out.2.2
      have HCA : Hid (crA dl ks = crD ks dl) := by show _ = _; unfold crA; rw [if_pos HE.out.1]
      clear hlt hj hmk
      rcases HR.out.ex with ⟨hd0, hb, -⟩ | ⟨K, tl, hx, hp, hF⟩
      · have hr := run_range_nilMap (P := Try.prog) wr 88 9 112 under68
        have hnx : ∀ ty, (Instr.next (.pointer (some ⟨wr.heap.size, 0, none⟩)) false ty).run Try.prog (wr.alloc (.mapIter none 0 #[] 0)) = .ok (.tuple #[.bool false]) (wr.alloc (.mapIter none 0 #[] 0)) := fun ty => run_next_nilMap wr ty 0 0 #[]
        have hc : wr.cell? ⟨D, 0, none⟩ = some (.map none) := by rw [cell_of_row _ _ _ _ _ _ hb]; rfl
        obtain ⟨W0, hW0⟩ : ∃ W0, wr.alloc (.mapIter none 0 #[] 0) = W0 := ⟨_, rfl⟩
        have HB : Hid (Below w.heap.size w W0 ∧ dl = []) := ⟨HE.out.2.2.trans ((show Below wr.heap.size wr W0 by rw [← hW0]; exact bel1 wr _).mono HE.out.2.2.size), hd0⟩
        rw [hW0] at hr hnx
        clear hb hW0 hd0
        obtain ⟨r, hre⟩ : ∃ r, wr.heap.size = r := ⟨_, rfl⟩
        rw [hre] at hr hnx
        clear hre
        go_upto_region 15 with (fail)
        go_wp2_with fail
        go_loopw [11, 12, 13, 14] (fun _ _ _ _ wx => wx = W0) (fun _ _ _ _ wx => 1)
        case atStart => rfl
        case round =>
          have hw : wr = W0 := hrel
          rw [hw]
          clear hw
          go_wp2_with fail
          go_ret
          refine ⟨by rw [HE.out.1]; rfl, F, ?_, Fr.newer HB.out.1⟩
          rw [HCA.out]
          have := HH.out.1.newer HB.out.1
          rw [HB.out.2] at this ⊢
          exact this
      · obtain ⟨es, c, hmp, hpm, hbk⟩ := hx.km
        have hnd : (dl.map Fd.nm).Nodup := HR.out.nd
        have hr := run_range_map (P := Try.prog) wr 88 9 112 K (ents es).toArray c under68 hmp
        obtain ⟨W0, hW0⟩ : ∃ W0, wr.alloc (.mapIter (some K) c #[] c) = W0 := ⟨_, rfl⟩
        rw [hW0] at hr
        have hb0 : Below wr.heap.size wr W0 := by rw [← hW0]; exact bel1 _ _
        have hi0 : W0.heap[wr.heap.size]? = some (.mapIter (some K) c #[] c) := by rw [← hW0]; exact heap_alloc_new _ _
        have hrest : rest es #[] = es := by unfold rest; simp
        have c0 : wr.cell? ⟨D, 0, none⟩ = some (.map (some K)) := hx.cells.1
        obtain ⟨r, hre⟩ : ∃ r, wr.heap.size = r := ⟨_, rfl⟩
        have hMlt : M < wr.heap.size := (Array.getElem?_eq_some_iff.1 HE.out.2.1).1
        have hKlt := hx.lt K (.inr (.inl rfl))
        have hFl : ∀ q, F q → q < w.heap.size := HH.out.1.lt
        have hsz := HE.out.2.2.size
        have hne : (prs es).map Prod.fst = es.map En.nm := by unfold prs; rw [List.map_map]; rfl
        have hnde : (es.map En.nm).Nodup := by
          rw [← hne, (hpm.map Prod.fst).nodup_iff]
          exact hx.knd
        obtain ⟨dlx, hdx⟩ : ∃ dlx, tl.map pl = dlx := ⟨_, rfl⟩
        have hin : ∀ x ∈ dlx, x.nm ∈ es.map En.nm := fun x hx' => by
          rw [← hne, (hpm.map Prod.fst).mem_iff, mlT_fst, ← pl_nm, hdx]
          exact List.mem_map_of_mem hx'
        have HX : Hid ((dlx.map Fd.nm).Nodup ∧ (es.map En.nm).Nodup ∧ Bok es c ∧ dlx.Perm dl ∧ (K ≠ r ∧ M ≠ r ∧ K ≠ M) ∧ ∀ x ∈ dlx, x.b.length ≤ 2000000 ∧ x.ws.length ≤ 2000000 ∧ WsOk x.b.length x.ws) := by
          refine ⟨by rw [← hdx, pl_nm]; exact hx.nd, hnde, hbk, by rw [← hdx]; exact hp, ⟨by omega, by omega, ?_⟩, fun x hx' => HH.out.2.2 x ?_⟩
          · have h1 := hFl K ((hF K).2 (.inr (.inl rfl)))
            have h2 := HM.out
            omega
          · rw [← hdx] at hx'
            exact hp.mem_iff.1 hx'
        have HI0 : Hid (RI w W0 D M r K c es sy dlx ks F #[]) := by
          refine ⟨by rw [← hre]; exact hi0, ⟨j, (hb0.block M hMlt).trans HE.out.2.1⟩, (hb0.block K hKlt).trans hmp, ⟨tl, hx.newer hb0, hpm, ?_, fun q hq => ?_⟩, ⟨hb0.os.trans HE.out.2.2.os, hb0.tape.trans HE.out.2.2.tape, hb0.output.trans HE.out.2.2.output, by have := hb0.size; omega⟩, fun q hq hn => ?_, ?_⟩
          · rw [hdx, hrest]
            conv => lhs; rw [← List.map_id dlx]
            refine List.map_congr_left fun x hx' => ?_
            rw [if_pos (hin x hx')]
            rfl
          · have h1 := hFl q ((hF q).2 hq)
            have h2 := HM.out
            exact ⟨.inl ((hF q).2 hq), by omega, by omega⟩
          · rw [hb0.block q (by omega)]
            exact HE.out.2.2.block q hq
          · have h1 : W0.heap.size = wr.heap.size + 1 := by rw [← hW0]; simp
            have h2 := HM.out
            exact ⟨by omega, by omega, by omega, by omega⟩
        have HZ : Hid (wrE dl [] ks = 0) := HE.out.1
        rw [hre] at hr
        clear hx hp hF hmp hpm hbk hnd hW0 hb0 hi0 hrest hre hMlt hKlt hFl hsz hne hnde hdx hin HR HKW HE
        go_upto_region 15 with (fail)
        go_wp2_with fail
        go_loopw [11, 12, 13, 14] (fun _ _ _ _ wx => ∃ (seen : Array Nat), Hid (RI w wx D M r K c es sy dlx ks F seen)) (fun _ _ _ _ wx => iLeft es wx r)
        case atStart => exact ⟨#[], HI0⟩
        case round =>
          obtain ⟨seen, HI⟩ := hrel
          have HK : Hid (iLeft es wr r = (rest es seen).length) := iLeft_at HI.out.it
          rcases range_step HI.out.it HI.out.mp HX.out.2.2.1 with ⟨h0, hnx⟩ | ⟨e, he, V, hpr, hnx, hen, hoff, hitV, o1, o2, o3, o4⟩
          · have HA : Hid (∃ F', DR wr D F' sy (crD ks dl) ∧ Fr F F' w wr) := by
              obtain ⟨tl, k1, k2, k3, k4⟩ := HI.out.ex
              obtain ⟨z1, z2, z3, z4⟩ := HI.out.fr
              refine ⟨CF D K tl, ⟨.inr ⟨K, tl, k1, ?_, fun q => Iff.rfl⟩⟩, ⟨z1, z2, z3, z4, HI.out.bl, fun q hq => (k4 q hq).1⟩⟩
              rw [k3, h0]
              unfold crD
              have : dlx.map (fun x => if x.nm ∈ ([] : List En).map En.nm then x else crF ks x) = dlx.map (crF ks) := List.map_congr_left fun x hx' => by simp
              rw [this]
              exact HX.out.2.2.2.1.map _
            clear h0 hr
            go_wp2_with fail
            go_ret
            refine ⟨by rw [HZ.out]; rfl, ?_⟩
            rw [HCA.out]
            exact HA.out
          · have hPV : ∀ q, P q → V.heap[q]? = w.heap[q]? := fun q hq => by
              obtain ⟨h1, h2⟩ := HH.out.2.1 q hq
              rw [hoff q (by have := HI.out.lo.2.2.1; omega)]
              exact HI.out.bl q h1 h2
            have hVs : w.heap.size ≤ V.heap.size := by rw [o4]; exact HI.out.fr.2.2.2
            obtain ⟨k, hmk⟩ := HI.out.ix
            have hmV : MapI V M (entK ks 0) k := (hoff M HX.out.2.2.2.2.1.2.1).trans hmk
            have hlk := look74 hmV e.nm
            have hlen := hpr.length_eq
            rw [List.length_cons] at hlen
            have HLT : Hid ((rest es (seen.push e.born)).length < iLeft es wr r) := by show _ < _; rw [HK.out]; omega
            have hKV : KeepsAt P V (.slice ka j kc) ks := HKA.out.at' hPV
            obtain ⟨ka', kc', hkv, -, hcl⟩ := hKV
            obtain ⟨hna, -, hnc⟩ := Value.slice.inj hkv
            subst hna
            subst hnc
            have HSTEP : Hid (∀ nv, NumsAt V nv (kNs e.nm ks) → ((kNs e.nm ks).length : Int) ≤ 140737488351232 → Calls Try.prog 70 #[.pointer (some ⟨e.q, 0, none⟩), nv] V fun x w3 => (∃ v, x = .returned v) ∧ Hid (RI w w3 D M r K c es sy dlx ks F (seen.push e.born))) := fun nv hn1 hn2 =>
              HI.out.step he hpr hoff hitV o1 o2 o3 o4 HX.out.2.2.2.2.1 HX.out.1 HX.out.2.1 HX.out.2.2.2.2.2 hn1 hn2
            cases hix : kIx e.nm ks 0 with
            | none =>
              rw [hix] at hlk
              dsimp only at hlk
              have hkn : kNs e.nm ks = [] := by unfold kNs; rw [hix]
              have HST : Hid (Calls Try.prog 70 #[.pointer (some ⟨e.q, 0, none⟩), .slice none 0 0] V fun x w3 => (∃ v, x = .returned v) ∧ Hid (RI w w3 D M r K c es sy dlx ks F (seen.push e.born))) :=
                HSTEP.out _ (by rw [hkn]; exact ⟨none, 0, rfl, Nat.le_refl _, fun i x hi => by simp at hi⟩) (by rw [hkn]; decide)
              clear hpr hoff hitV o1 o2 o3 o4 hlen he hr hPV hVs hmk hmV hkv hcl hix hkn HSTEP
              go_wp2_with (go_at_call 70; refine HST.out.mono ?_; rintro x w3 ⟨⟨v3, rfl⟩, HN3⟩)
              go_roundw
              case rel => exact ⟨seen.push e.born, HN3⟩
              case measure => rw [iLeft_at HN3.out.it]; exact HLT.out
            | some q =>
              rw [hix] at hlk
              dsimp only at hlk
              obtain ⟨hq1, kk, hq2, hq3, hq4⟩ := kIx_lt hix
              obtain ⟨nl, kb, ko, nv, hkb, -, k0, k1, knv⟩ := hcl q kk hq2
              subst hkb
              have hqj : (q : Int) < (j : Int) := by have := HN.out; omega
              have HST : Hid (Calls Try.prog 70 #[.pointer (some ⟨e.q, 0, none⟩), nv] V fun x w3 => (∃ v, x = .returned v) ∧ Hid (RI w w3 D M r K c es sy dlx ks F (seen.push e.born))) :=
                HSTEP.out _ (by rw [hq4]; exact knv.nums fun q hq => by have := (HH.out.2.1 q hq).1; omega) (by rw [hq4]; exact nl)
              obtain ⟨na, nc, hnv, -⟩ := knv
              subst hnv
              clear hpr hoff hitV o1 o2 o3 o4 hlen he hr hPV hVs hmk hmV hkv hcl hix hq1 hq2 hq3 hq4 nl k0 HSTEP
              go_wp2_with (go_at_call 70; refine HST.out.mono ?_; rintro x w3 ⟨⟨v3, rfl⟩, HN3⟩)
              go_roundw
              case rel => exact ⟨seen.push e.born, HN3⟩
              case measure => rw [iLeft_at HN3.out.it]; exact HLT.out
end Go.Proofs.Ytflhgphjkhplmaa.D

/- A log as it lies; its length, its last number, what was cut. -/
namespace Go.Proofs.Ytflhgphjkhplmaa.D
open Go.RowKit W
set_option linter.unusedVariables false
set_option linter.unusedSimpArgs false

/-- A record with its number, and its row. -/
structure Rc where
  n : Nat
  r : List Int
  rv : Value
def Rc.pl (x : Rc) : Nat × List Int := (x.n, x.r)
def e2 (x : Rc) : List Value := [.int .u64 (x.n : Int), x.rv]
theorem e2_len (x : Rc) : (e2 x).length = 2 := rfl
/-- A log, plainly: its checkpoint's number and record, the records behind it, how many bytes were cut. -/
structure Lg where
  bn : Nat
  b : List Int
  rs : List (Nat × List Int)
  cut : Nat
def seqN (g : Lg) : Nat := match g.rs.getLast? with | some x => x.1 | none => g.bn
def logC (D : Nat) (g : Lg) (bv rv : Value) : Array Value := #[.pointer (some ⟨D, 0, none⟩), .string (tx [97]), .int .u64 (g.bn : Int), bv, rv, .int .i64 (g.cut : Int)]
/-- A log as it lies, at L, on the disk at D; P: its blocks. -/
structure LG (w : World) (L D : Nat) (g : Lg) (P : Nat → Prop) : Prop where
  ex : ∃ bv rv xs, w.heap[L]? = some (.cells (logC D g bv rv) 95 (0, 0)) ∧ w.ownsRow 0 5 1 bv g.b.length (u8l g.b) ∧ w.ownsRow 0 81 2 rv xs.length (fl e2 xs) ∧ xs.map Rc.pl = g.rs ∧ (∀ x ∈ xs, w.ownsRow 0 5 1 x.rv x.r.length (u8l x.r)) ∧ ∀ q, P q ↔ q = L ∨ bv.ownBlock = some q ∨ rv.ownBlock = some q ∨ ∃ x ∈ xs, x.rv.ownBlock = some q
variable {w w' : World} {L D n : Nat} {g : Lg} {P : Nat → Prop}
theorem LG.at' (h : LG w L D g P) (hk : ∀ q, P q → w'.heap[q]? = w.heap[q]?) : LG w' L D g P := by
  obtain ⟨bv, rv, xs, h1, h2, h3, h4, h5, h6⟩ := h
  exact ⟨bv, rv, xs, (hk L ((h6 L).2 (.inl rfl))).trans h1, own_at h2 fun q hq => hk q ((h6 q).2 (.inr (.inl hq))), own_at h3 fun q hq => hk q ((h6 q).2 (.inr (.inr (.inl hq)))), h4, fun x hx => own_at (h5 x hx) fun q hq => hk q ((h6 q).2 (.inr (.inr (.inr ⟨x, hx, hq⟩)))), h6⟩
theorem LG.lt (h : LG w L D g P) : ∀ q, P q → q < w.heap.size := by
  obtain ⟨bv, rv, xs, h1, h2, h3, h4, h5, h6⟩ := h
  intro q hq
  rcases (h6 q).1 hq with rfl | e | e | ⟨x, hx, e⟩
  · exact (Array.getElem?_eq_some_iff.1 h1).1
  · exact (h2.lt q e).2
  · exact (h3.lt q e).2
  · exact ((h5 x hx).lt q e).2
theorem LG.newer (h : LG w L D g P) (hb : Below w.heap.size w w') : LG w' L D g P := h.at' fun q hq => hb.block q (h.lt q hq)
theorem LG.drewN (h : LG w L D g P) (n : Nat) : LG (w.drewN n) L D g P := h.at' fun q hq => rfl
theorem len_some (h : LG w L D g P) : Calls Try.prog 30 #[.pointer (some ⟨L, 0, none⟩)] w fun e w' => e = .returned (.int .i64 (g.rs.length : Int)) ∧ w' = w := by
  obtain ⟨bv, rv, xs, h1, h2, h3, h4, h5, h6⟩ := h
  obtain ⟨a, c, rfl⟩ := own_slice h3
  have hl : xs.length = g.rs.length := by rw [← h4, List.length_map]
  have c4 : w.cell? ⟨L, 4, none⟩ = some (.slice a xs.length c) := by rw [cell_of_row _ _ _ _ _ _ h1]; rfl
  rw [hl] at c4
  clear h1 h2 h3 h4 h5 h6 hl
  go_enter Try.func30, Try.ntmps30
  go_wp2
  go_ret
  exact ⟨rfl, rfl⟩
theorem cut_some (h : LG w L D g P) : Calls Try.prog 32 #[.pointer (some ⟨L, 0, none⟩)] w fun e w' => e = .returned (.int .i64 (g.cut : Int)) ∧ w' = w := by
  obtain ⟨bv, rv, xs, h1, -⟩ := h
  have c4 : w.cell? ⟨L, 5, none⟩ = some (.int .i64 (g.cut : Int)) := by rw [cell_of_row _ _ _ _ _ _ h1]; rfl
  clear h1
  go_enter Try.func32, Try.ntmps32
  go_wp2
  go_ret
  exact ⟨rfl, rfl⟩
theorem e2_cell {w : World} {base : Nat} {a : Option Addr} {c : Nat} {xs : List Rc} (h : w.ownsRow base 81 2 (.slice a xs.length c) xs.length (fl e2 xs)) {i : Nat} {x : Rc} (hx : xs[i]? = some x) : ∃ q, a = some ⟨q, 0, none⟩ ∧ w.cell? ⟨q, i * 2, none⟩ = some (.int .u64 (x.n : Int)) ∧ w.cell? ⟨q, i * 2 + 1, none⟩ = some x.rv := by
  have hi : i < xs.length := (List.getElem?_eq_some_iff.1 hx).1
  obtain ⟨q, c', hv⟩ := own_form h (by omega)
  cases hv
  refine ⟨q, rfl, ?_, ?_⟩
  · rw [h.cellAt (i * 2) (by omega)]
    exact fl_at e2_len xs i x 0 hx (by decide)
  · rw [h.cellAt (i * 2 + 1) (by omega)]
    exact fl_at e2_len xs i x 1 hx (by decide)
set_option maxRecDepth 20000 in
theorem seq_some (h : LG w L D g P) (hs : g.rs.length ≤ 4000000) : Calls Try.prog 31 #[.pointer (some ⟨L, 0, none⟩)] w fun e w' => e = .returned (.int .u64 (seqN g : Int)) ∧ ∃ n, w' = w.drewN n := by
  obtain ⟨bv, rv, xs, h1, h2, h3, h4, h5, h6⟩ := h
  obtain ⟨a, c, rfl⟩ := own_slice h3
  have hl : xs.length = g.rs.length := by rw [← h4, List.length_map]
  have c4 : w.cell? ⟨L, 4, none⟩ = some (.slice a xs.length c) := by rw [cell_of_row _ _ _ _ _ _ h1]; rfl
  have c2 : w.cell? ⟨L, 2, none⟩ = some (.int .u64 (g.bn : Int)) := by rw [cell_of_row _ _ _ _ _ _ h1]; rfl
  obtain ⟨N, hN⟩ : ∃ N, xs.length = N := ⟨_, rfl⟩
  cases hlast : xs.getLast? with
  | none =>
    have hx0 : xs = [] := by simpa using hlast
    have HS : Hid (seqN g = g.bn) := by show _ = _; unfold seqN; rw [← h4, hx0]; rfl
    have hN0 : N = 0 := by rw [← hN, hx0]; rfl
    rw [hN, hN0] at c4
    clear h1 h2 h3 h4 h5 h6 hl hN hlast hx0 hN0 hs
    go_enter Try.func31, Try.ntmps31
    go_wp2
    go_ret
    exact ⟨by rw [HS.out]; rfl, 0, rfl⟩
  | some x =>
    obtain ⟨ys, hys⟩ : ∃ ys, xs = ys ++ [x] := by
      rcases List.eq_nil_or_concat xs with e | ⟨ys, y, e⟩
      · rw [e] at hlast; cases hlast
      · rw [e] at hlast
        simp at hlast
        exact ⟨ys, by rw [e, hlast]; simp⟩
    have HS : Hid (seqN g = x.n) := by show _ = _; unfold seqN; rw [← h4, hys]; simp [Rc.pl]
    have hix : xs[ys.length]? = some x := by rw [hys]; simp
    obtain ⟨q, rfl, k1, -⟩ := e2_cell h3 hix
    obtain ⟨m, hm⟩ : ∃ m, ys.length = m := ⟨_, rfl⟩
    have hNm : N = m + 1 := by rw [← hN, hys]; simp [hm]
    rw [hm] at k1
    rw [hN] at c4
    have i1 : (0 : Int) < (N : Int) := by omega
    have i2 : (N : Int) - 1 = (m : Int) := by omega
    have i3 : IntKind.i64.wrap (m : Int) = (m : Int) := by rw [IntKind.wrap_i64]; omega
    have i4 : (N : Int) ≤ 4000000 := by omega
    have i5 : (m : Int) < (N : Int) := by omega
    have i6 : m < N := by omega
    clear h1 h2 h3 h4 h5 h6 hl hlast hys hix hm hNm hs hN
    go_enter Try.func31, Try.ntmps31
    go_wp2
    go_quiet (fail)
    go_wp2
    go_ret
    exact ⟨by rw [HS.out]; rfl, _, rfl⟩
end Go.Proofs.Ytflhgphjkhplmaa.D

/- The records behind a number. -/
namespace Go.Proofs.Ytflhgphjkhplmaa.D
open Go.RowKit W
set_option linter.unusedVariables false
set_option linter.unusedSimpArgs false

variable {w w' : World} {xs : List Rc}
theorem over_any (x : Rc) (q : Nat) (num : Nat) (w : World) {ra : Option Addr} {l rc : Nat} (hrv : x.rv = .slice ra l rc) (hq : w.cell? ⟨q, 0, none⟩ = some (.int .u64 (num : Int))) : Calls Try.prog 91 #[.agg #[.int .u64 (x.n : Int), x.rv], .pointer (some ⟨q, 0, none⟩)] w fun e w' => e = .returned (.bool (decide (num < x.n))) ∧ Below w.heap.size w w' := by
  have hq2 : q < w.heap.size := World.block_lt_of_cell? w _ hq
  have hne : ¬ w.heap.size = q := by omega
  have hne2 : ¬ q = w.heap.size := by omega
  rw [hrv]
  obtain ⟨m, hm⟩ : ∃ m, x.n = m := ⟨_, rfl⟩
  rw [hm]
  have hqW : (w.alloc (.cells #[.int .u64 (m : Int), .slice ra l rc] 81)).cell? ⟨q, 0, none⟩ = some (.int .u64 (num : Int)) := ((bel1 w _).cell hq2).trans hq
  clear hq hm hrv
  go_enter Try.func91, Try.ntmps91
  go_wp2
  go_ret
  refine ⟨?_, bel1 w _⟩
  show Ending.returned (.bool _) = _
  congr 2
  try simp
def ixN (xs : List Rc) (num : Nat) : Nat := (xs.takeWhile fun x => decide (x.n ≤ num)).length
theorem tw_at : ∀ (xs : List Rc) (num j : Nat) (x : Rc), j < ixN xs num → xs[j]? = some x → x.n ≤ num
  | [], num, j, x, h, hx => by simp at hx
  | y :: r, num, j, x, h, hx => by
    unfold ixN at h
    rw [List.takeWhile_cons] at h
    split at h
    · rename_i c
      cases j with
      | zero => simp at hx; rw [← hx]; simpa using c
      | succ j =>
        simp at hx h
        exact tw_at r num j x (by unfold ixN; exact h) hx
    · simp at h
theorem ix_stop : ∀ (xs : List Rc) (num k : Nat) (x : Rc), (∀ j y, j < k → xs[j]? = some y → y.n ≤ num) → xs[k]? = some x → num < x.n → ixN xs num = k
  | [], num, k, x, _, hx, _ => by simp at hx
  | y :: r, num, 0, x, _, hx, hn => by
    simp at hx
    subst hx
    unfold ixN
    rw [List.takeWhile_cons, if_neg (by simp; omega)]
    rfl
  | y :: r, num, k + 1, x, h, hx, hn => by
    have h0 := h 0 y (by omega) rfl
    unfold ixN
    rw [List.takeWhile_cons, if_pos (by simpa using h0), List.length_cons]
    exact congrArg (· + 1) (ix_stop r num k x (fun j z hj hz => h (j + 1) z (by omega) hz) (by simpa using hx) hn)
theorem ix_end : ∀ (xs : List Rc) (num : Nat), (∀ (j : Nat) (y : Rc), xs[j]? = some y → y.n ≤ num) → ixN xs num = xs.length
  | [], num, _ => rfl
  | y :: r, num, h => by
    have h0 := h 0 y rfl
    unfold ixN
    rw [List.takeWhile_cons, if_pos (by simpa using h0), List.length_cons]
    exact congrArg (· + 1) (ix_end r num (fun j z hz => h (j + 1) z hz))
def ixI (xs : List Rc) (num : Nat) : Int := if ixN xs num < xs.length then (ixN xs num : Int) else -1
set_option maxRecDepth 20000 in
set_option maxHeartbeats 4000000 in
theorem index_any (base : Nat) (sv : Value) (q num : Nat) (w : World) (ho : w.ownsRow base 81 2 sv xs.length (fl e2 xs)) (hsl : ∀ x ∈ xs, ∃ a l c, x.rv = .slice a l c) (hl : xs.length ≤ 4000000) (hq : w.cell? ⟨q, 0, none⟩ = some (.int .u64 (num : Int))) :
    Calls Try.prog 90 #[sv, .func (.func 91) #[] #[.pointer (some ⟨q, 0, none⟩)]] w fun e w' => e = .returned (.int .i64 (ixI xs num)) ∧ Below w.heap.size w w' := by
  obtain ⟨sa, cap, rfl⟩ := own_slice ho
  have HO : Hid (w.ownsRow base 81 2 (.slice sa xs.length cap) xs.length (fl e2 xs) ∧ ∀ x ∈ xs, ∃ a l c, x.rv = .slice a l c) := ⟨ho, hsl⟩
  have HQ : Hid (w.cell? ⟨q, 0, none⟩ = some (.int .u64 (num : Int))) := hq
  obtain ⟨n, hn⟩ : ∃ n, xs.length = n := ⟨_, rfl⟩
  have HN : Hid (xs.length = n) := hn
  rw [hn] at hl ⊢
  have hl' : (n : Int) ≤ 4000000 := by omega
  clear ho hq hn hl hsl
  go_enter Try.func90, Try.ntmps90
  go_wp2_with fail
  go_loopw [5, 8] (fun x v wr => ∃ k : Nat, k ≤ n ∧ v = .int .i64 k ∧ Hid (∀ (j : Nat) (p : Rc), j < k → xs[j]? = some p → p.n ≤ num) ∧ Hid (Below w.heap.size w wr)) (fun x v wr => n - (intOf v).toNat)
  case atStart => exact ⟨0, by omega, rfl, fun j p hj => (Nat.not_lt_zero _ hj).elim, Below.refl _ _⟩
  case round =>
    obtain ⟨k, hk, rfl, HD, HB⟩ := hrel
    by_cases hlt : k < n
    · have hlt' : (k : Int) < (n : Int) := by omega
      obtain ⟨s, hs⟩ : ∃ s, xs[k]? = some s := ⟨_, List.getElem?_eq_getElem (by have := HN.out; omega)⟩
      have HS : Hid (xs[k]? = some s) := hs
      obtain ⟨g, rfl, c0, c1⟩ := e2_cell HO.out.1 hs
      obtain ⟨ra, rl, rcp, hrv⟩ := HO.out.2 s (List.mem_of_getElem? hs)
      rw [hrv] at c1
      have hcap : (n : Int) ≤ (cap : Int) := by have := own_cap HO.out.1; have := HN.out; omega
      have d0 : wr.cell? ⟨g, k * 2, none⟩ = some (.int .u64 (s.n : Int)) := (HB.out.cell (World.block_lt_of_cell? w _ c0)).trans c0
      have d1 : wr.cell? ⟨g, k * 2 + 1, none⟩ = some (.slice ra rl rcp) := (HB.out.cell (World.block_lt_of_cell? w _ c1)).trans c1
      have HIS : Hid (Calls Try.prog 91 #[.agg #[.int .u64 (s.n : Int), .slice ra rl rcp], .pointer (some ⟨q, 0, none⟩)] wr fun e w' => e = .returned (.bool (decide (num < s.n))) ∧ Below wr.heap.size wr w') := by
        have := over_any s q num wr hrv ((HB.out.cell (p := ⟨q, 0, none⟩) (World.block_lt_of_cell? w _ HQ.out)).trans HQ.out)
        rwa [hrv] at this
      clear hs c0 c1 hrv
      by_cases hq : num < s.n
      · have HE : Hid (ixI xs num = (k : Int)) := by
          show _ = _
          have := ix_stop xs num k s HD.out HS.out hq
          unfold ixI
          rw [this, if_pos (by have := HN.out; omega)]
        rw [decide_eq_true hq] at HIS
        clear hq
        go_wp2_with (go_at_call 91; refine HIS.out.mono ?_; rintro e w2 ⟨rfl, hb2⟩)
        go_ret
        exact ⟨by rw [HE.out]; rfl, HB.out.trans (hb2.mono HB.out.size)⟩
      · have HN2 : Hid (∀ (j : Nat) (p : Rc), j < k + 1 → xs[j]? = some p → p.n ≤ num) := by
          intro j p hj hp
          rcases (show j = k ∨ j < k from by omega) with rfl | h
          · rw [HS.out] at hp
            rw [← Option.some.inj hp]
            omega
          · exact HD.out j p h hp
        rw [decide_eq_false hq] at HIS
        clear hq
        go_wp2_with (go_at_call 91; refine HIS.out.mono ?_; rintro e w2 ⟨rfl, hb2⟩)
        go_roundw
        case rel => exact ⟨k + 1, by omega, by go_num, HN2.out, HB.out.trans (hb2.mono HB.out.size)⟩
        case measure => simp [intOf]; omega
    · have : k = n := by omega
      subst this
      have HE : Hid (ixI xs num = -1) := by
        show _ = _
        unfold ixI
        rw [ix_end xs num (fun j y hy => HD.out j y (by have := (List.getElem?_eq_some_iff.1 hy).1; have := HN.out; omega) hy), if_neg (by omega)]
      clear hk hlt
      go_wp2_with fail
      go_ret
      exact ⟨by rw [HE.out]; rfl, HB.out⟩
end Go.Proofs.Ytflhgphjkhplmaa.D

/- behind: the records behind a number, in new memory; none, if some are missing. -/
namespace Go.Proofs.Ytflhgphjkhplmaa.D
open Go.RowKit W
set_option linter.unusedVariables false
set_option linter.unusedSimpArgs false

variable {w w' : World} {xs : List Rc}
theorem info81 : (Try.prog.info? 81).map (fun i => (i.zero, i.size, i.bytes)) = some (some (.agg #[.int .u64 0, .slice none 0 0]), 2, 32) := by kernel_rfl
theorem e2_one (hsl : ∀ x ∈ xs, ∃ a l c, x.rv = .slice a l c) : ∀ u ∈ fl e2 xs, u.oneCell' = true := by
  induction xs with
  | nil => intro u h; simp [fl] at h
  | cons x r ih =>
    intro u h
    rcases List.mem_append.1 (show u ∈ e2 x ++ fl e2 r from h) with h | h
    · obtain ⟨a, l, c, e⟩ := hsl x (by simp)
      unfold e2 at h
      rw [e] at h
      simp at h
      rcases h with rfl | rfl <;> rfl
    · exact ih (fun y hy => hsl y (by simp [hy])) u h
set_option maxRecDepth 20000 in
set_option maxHeartbeats 1000000 in
theorem cloneR_any (ad : Addr) (c : Nat) (w : World) (hC : ∀ j u, (fl e2 xs)[j]? = some u → w.cell? (ad.add j) = some u) (hsl : ∀ x ∈ xs, ∃ a l c, x.rv = .slice a l c) (hl : xs.length ≤ 4000000) : Calls Try.prog 92 #[.slice (some ad) xs.length c] w fun e w' => (∃ v', e = .returned v' ∧ w'.ownsRow w.heap.size 81 2 v' xs.length (fl e2 xs)) ∧ Below w.heap.size w w' := by
  obtain ⟨i0, hi, hz0, hz1, hz2⟩ := info_parts info81
  have HS : Hid ((∀ j u, (fl e2 xs)[j]? = some u → (w.alloc (.cells #[] 81)).cell? (ad.add j) = some u) ∧ (∀ u ∈ fl e2 xs, u.oneCell' = true) ∧ xs.length ≤ 4000000) := ⟨fun j u hu => by
    have h := hC j u hu
    exact ((bel1 w _).cell (World.block_lt_of_cell? w _ h)).trans h, e2_one hsl, hl⟩
  have HI : Hid (Try.prog.info? 81 = some i0 ∧ i0.zero = some (.agg #[.int .u64 0, .slice none 0 0]) ∧ i0.size = 2 ∧ i0.bytes = 32) := ⟨hi, hz0, hz1, hz2⟩
  obtain ⟨L, hL⟩ : ∃ L, xs.length = L := ⟨_, rfl⟩
  have HL : Hid (xs.length = L) := hL
  rw [hL] at HS ⊢
  have hq : ∀ w, (binOp .eql 93 (.slice (some ad) L c) (.slice none 0 0)).run Try.prog w = .ok (.bool false) w := fun w => by kernel_rfl
  clear hC hl hL hsl hi hz0 hz1 hz2
  go_enter Try.func92, Try.ntmps92
  go_wp2_with (at_builtin; (refine wpList_append_own _ rfl (.tmp 5) (.tmp 6) 93 rfl w.heap.size 81 i0 (.agg #[.int .u64 0, .slice none 0 0]) 2 32 Try.underlying93 HI.out.1 HI.out.2.1 HI.out.2.2.1 HI.out.2.2.2 rfl (by decide) (.slice (some ⟨w.heap.size, 0, none⟩) 0 0) 0 [] rfl (World.ownsRow_lit w #[] 0 (Nat.le_refl _) (by decide) rfl) ad L c (fl e2 xs) rfl (by rw [fl_len e2_len, HL.out]) HS.out.1 HS.out.2.1 (by have := HS.out.2.2; unfold maxLen; omega) (by have := HS.out.2.2; omega) (by simp) ?_; intro v' w' ho' hg' _))
  go_ret
  refine ⟨⟨_, rfl, ?_⟩, (bel1 _ _).grown hg' (by simp) ?_⟩
  · have h := ho'
    rw [Nat.zero_add, List.nil_append] at h
    exact h
  · intro q hq'
    simp [Value.ownBlock] at hq'
    omega
theorem own_capv2 {base size n : Nat} {e : TypeId} {a : Option Addr} {c : Nat} {xs : List Value} (h : w.ownsRow base e size (.slice a n c) n xs) : n ≤ c := by
  rcases h.2 with ⟨h1, h2⟩ | ⟨g, cp, cur, hv, _, _, h3, _⟩
  · cases h1; omega
  · cases hv; exact h3
/-- Those behind a number. -/
def bhR (xs : List Rc) (num : Nat) : List Rc := match xs[ixN xs num]? with | none => [] | some x => if 1 < x.n - num then [] else xs.drop (ixN xs num)
theorem ixN_le (xs : List Rc) (num : Nat) : ixN xs num ≤ xs.length := by
  unfold ixN
  exact (List.takeWhile_prefix _).length_le
theorem ixN_over : ∀ (xs : List Rc) (num : Nat) (x : Rc), xs[ixN xs num]? = some x → num < x.n
  | [], num, x, h => by simp at h
  | y :: r, num, x, h => by
    unfold ixN at h
    rw [List.takeWhile_cons] at h
    split at h
    · exact ixN_over r num x (by simpa [ixN] using h)
    · rename_i c
      simp at h c
      rw [← h]
      exact c
set_option maxRecDepth 20000 in
set_option maxHeartbeats 4000000 in
theorem behind_any (base : Nat) (sv : Value) (num : Nat) (w : World) (ho : w.ownsRow base 81 2 sv xs.length (fl e2 xs)) (hsl : ∀ x ∈ xs, ∃ a l c, x.rv = .slice a l c) (hl : xs.length ≤ 4000000) (hn : ∀ x ∈ xs, x.n < 18446744073709551616) :
    Calls Try.prog 84 #[sv, .int .u64 (num : Int)] w fun e w' => (∃ v', e = .returned v' ∧ w'.ownsRow w.heap.size 81 2 v' (bhR xs num).length (fl e2 (bhR xs num))) ∧ Below w.heap.size w w' := by
  obtain ⟨sa, cap, rfl⟩ := own_slice ho
  obtain ⟨W1, hW1⟩ : ∃ W1, w.alloc (.cells #[.int .u64 (num : Int)] 22) = W1 := ⟨_, rfl⟩
  have hB1 : Below w.heap.size w W1 := by rw [← hW1]; exact bel1 w _
  have hbx : Boxed W1 w.heap.size 22 (.int .u64 (num : Int)) := by rw [← hW1]; exact Boxed.new _ _ _
  have ho1 : W1.ownsRow base 81 2 (.slice sa xs.length cap) xs.length (fl e2 xs) := own_at ho fun q hq => hB1.block q (ho.lt q hq).2
  have HI : Hid (Calls Try.prog 90 #[.slice sa xs.length cap, .func (.func 91) #[] #[.pointer (some ⟨w.heap.size, 0, none⟩)]] W1 fun e w' => e = .returned (.int .i64 (ixI xs num)) ∧ Below W1.heap.size W1 w') := index_any base _ w.heap.size num W1 ho1 hsl hl hbx.cell
  have hle := ixN_le xs num
  obtain ⟨n, hnn⟩ : ∃ n, xs.length = n := ⟨_, rfl⟩
  have hcap : n ≤ cap := by rw [← hnn]; exact own_capv2 ho
  cases hx : xs[ixN xs num]? with
  | none =>
    have hE : ixI xs num = -1 := by unfold ixI; rw [if_neg (by have := List.getElem?_eq_none_iff.1 hx; omega)]
    have HR : Hid (bhR xs num = []) := by show _ = _; unfold bhR; rw [hx]
    rw [hE, hnn] at HI
    rw [hnn]
    have HB : Hid (Below w.heap.size w W1) := hB1
    clear ho hsl hl hn hB1 hbx ho1 hle hnn hx hE
    go_enter Try.func84, Try.ntmps84
    go_wp2_with (go_at_call 90; refine HI.out.mono ?_; rintro e w2 ⟨rfl, hb2⟩; (have HB2 : Hid (Below W1.heap.size W1 w2) := hb2); clear hb2)
    go_quiet (fail)
    go_wp2_with fail
    go_ret
    rw [HR.out]
    exact ⟨⟨_, rfl, World.ownsRow_nil _ _ _ _⟩, HB.out.trans ((HB2.out.trans ((drewN_below w2 _).mono HB2.out.size)).mono HB.out.size)⟩
  | some x =>
    have hlt : ixN xs num < xs.length := (List.getElem?_eq_some_iff.1 hx).1
    obtain ⟨k, hk⟩ : ∃ k, ixN xs num = k := ⟨_, rfl⟩
    have hE : ixI xs num = (k : Int) := by unfold ixI; rw [if_pos hlt, hk]
    have hov := ixN_over xs num x hx
    have hxn := hn x (List.mem_of_getElem? hx)
    rw [hk] at hx hlt
    obtain ⟨q, rfl, k1, k2⟩ := e2_cell ho1 hx
    have HX : Hid (W1.ownsRow base 81 2 (.slice (some ⟨q, 0, none⟩) xs.length cap) xs.length (fl e2 xs) ∧ (∀ y ∈ xs, ∃ a l c, y.rv = .slice a l c) ∧ xs.length = n ∧ n ≤ 4000000 ∧ k < n ∧ Below w.heap.size w W1 ∧ Boxed W1 w.heap.size 22 (.int .u64 (num : Int))) := ⟨ho1, hsl, hnn, by omega, by omega, hB1, hbx⟩
    obtain ⟨y, hy⟩ : ∃ y : Int, (x.n : Int) = y := ⟨_, rfl⟩
    obtain ⟨z, hz⟩ : ∃ z : Int, (num : Int) = z := ⟨_, rfl⟩
    rw [hy] at k1
    rw [hE, hnn] at HI
    rw [hnn]
    have hdiff : IntKind.u64.wrap (y - z) = y - z := by rw [IntKind.wrap_u64]; omega
    have i1 : (k : Int) < (n : Int) := by omega
    have i2 : (n : Int) ≤ (cap : Int) := by omega
    have i3 : (n : Int) ≤ 4000000 := by omega
    have i4 : k < n := by omega
    have hwk : IntKind.i64.wrap (k : Int) = (k : Int) := by rw [IntKind.wrap_i64]; omega
    have cbx : W1.cell? ⟨w.heap.size, 0, none⟩ = some (.int .u64 z) := by rw [← hz]; exact hbx.cell
    by_cases hgap : 1 < x.n - num
    · have HR : Hid (bhR xs num = []) := by show _ = _; unfold bhR; rw [hk, hx]; exact if_pos hgap
      have g1 : 1 < y - z := by omega
      have hW1' : w.alloc (.cells #[.int .u64 z] 22) = W1 := by rw [← hz]; exact hW1
      rw [hz]
      clear ho hsl hl hn hB1 hbx ho1 hle hnn hx hE hlt hk hov hxn k2 hgap hW1 hz hy
      go_enter Try.func84, Try.ntmps84
      go_wp2_with (go_at_call 90; refine HI.out.mono ?_; rintro e w2 ⟨rfl, hb2⟩; (have HB2 : Hid (Below W1.heap.size W1 w2) := hb2); (have c2 := (hb2.cell (World.block_lt_of_cell? _ _ k1)).trans k1); (have c3 := (hb2.cell (World.block_lt_of_cell? _ _ cbx)).trans cbx); clear hb2 k1 cbx)
      go_quiet (fail)
      go_wp2_with fail
      go_ret
      rw [HR.out]
      exact ⟨⟨_, rfl, World.ownsRow_nil _ _ _ _⟩, HX.out.2.2.2.2.2.1.trans ((HB2.out.trans ((drewN_below w2 _).mono HB2.out.size)).mono HX.out.2.2.2.2.2.1.size)⟩
    · have HR : Hid (bhR xs num = xs.drop k ∧ (xs.drop k).length = n - k) := ⟨by unfold bhR; rw [hk, hx]; exact if_neg hgap, by rw [List.length_drop, hnn]⟩
      have g1 : ¬ 1 < y - z := by omega
      have hW1' : w.alloc (.cells #[.int .u64 z] 22) = W1 := by rw [← hz]; exact hW1
      have HCL : Hid (∀ w2, Below W1.heap.size W1 w2 → Calls Try.prog 92 #[.slice (some ⟨q, k * 2, none⟩) (n - k) (cap - k)] w2 fun e w' => (∃ v', e = .returned v' ∧ w'.ownsRow w2.heap.size 81 2 v' (n - k) (fl e2 (xs.drop k))) ∧ Below w2.heap.size w2 w') := fun w2 hb => by
        have h1 := HX.out.1
        have := cloneR_any (xs := xs.drop k) ⟨q, k * 2, none⟩ (cap - k) w2 (fun j u hu => by
          rw [← fl_drop e2_len, List.getElem?_drop] at hu
          have h3 := h1.cells (g := q) rfl (k * 2 + j) u hu
          rw [Addr.add_mid, Nat.zero_add] at h3
          rw [Addr.add_mid]
          exact (hb.cell (World.block_lt_of_cell? _ _ h3)).trans h3) (fun y hy => HX.out.2.1 y (List.mem_of_mem_drop hy)) (by rw [HR.out.2]; have := HX.out; omega)
        rw [HR.out.2] at this
        exact this
      rw [hz]
      clear ho hsl hl hn hB1 hbx ho1 hle hnn hx hE hlt hk hov hxn k2 hgap hW1 hz hy
      go_enter Try.func84, Try.ntmps84
      go_wp2_with (go_at_call 90; refine HI.out.mono ?_; rintro e w2 ⟨rfl, hb2⟩; (have HB2 : Hid (Below W1.heap.size W1 w2) := hb2); (have c2 := (hb2.cell (World.block_lt_of_cell? _ _ k1)).trans k1); (have c3 := (hb2.cell (World.block_lt_of_cell? _ _ cbx)).trans cbx); clear hb2 k1 cbx)
      go_quiet (fail)
      go_wp2_with (go_at_call 92; refine (HCL.out (w2.drewN nq) (HB2.out.trans ((drewN_below w2 _).mono HB2.out.size))).mono ?_; rintro e w3 ⟨⟨v3, rfl, ho3⟩, hb3⟩; (have H3 : Hid (w3.ownsRow w2.heap.size 81 2 v3 (n - k) (fl e2 (xs.drop k)) ∧ Below w2.heap.size w2 w3) := ⟨ho3, ⟨hb3.os, hb3.tape, hb3.output, hb3.size, hb3.block⟩⟩); clear ho3 hb3)
      go_ret
      rw [HR.out.1, HR.out.2]
      obtain ⟨x1, x2, x3, x4, x5, x6, x7⟩ := HX.out
      exact ⟨⟨_, rfl, own_low H3.out.1 (Nat.le_trans x6.size HB2.out.size)⟩, x6.trans ((HB2.out.trans (H3.out.2.mono HB2.out.size)).mono x6.size)⟩
end Go.Proofs.Ytflhgphjkhplmaa.D
