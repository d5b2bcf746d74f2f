/- drop and add. -/
import Derived.Test.YtbcdaddbcjagjaaNf
namespace Go.Proofs.Ytbcdaddbcjagjaa
open Go.RowKit
set_option linter.unusedVariables false
set_option linter.unusedSimpArgs false

variable {w w' : World} {L M : Nat} {most cnt : Int} {l dl a b : List Nod} {n : Nod} {ml : List (List UInt8 × Nat)}
theorem LX.mlp (h : LX w L M most cnt l dl ml) {ml' : List (List UInt8 × Nat)} (hp : ml.Perm ml') : LX w L M most cnt l dl ml' := by
  obtain ⟨es, c, h1, h2, hB⟩ := h.mp
  exact ⟨h.bk, h.c0, h.c1, h.c2, h.nb, h.ch, h.sub, h.nd, es, c, h1, h2.trans hp, hB⟩
theorem MM.drew (h : MM w M ml) : MM w.drew M ml := h
theorem drew_below (w : World) : Below w.heap.size w w.drew := ⟨rfl, rfl, rfl, Nat.le_refl _, fun _ _ => rfl⟩
set_option maxRecDepth 20000 in
set_option maxHeartbeats 4000000 in
theorem LX.drop (h : LX w L M most cnt (a ++ n :: b) dl ml) (hk : (ml.map Prod.fst).Nodup) (hin : (n.key, n.N) ∈ ml) (hc1 : 1 ≤ cnt) (hc2 : cnt ≤ 1000000) : Calls Try.prog 49 #[.pointer (some ⟨L, 0, none⟩), .pointer (some ⟨n.N, 0, none⟩)] w fun e w' => e = .returned (.tuple #[]) ∧ LX w' L M most (cnt - 1) (a ++ b) dl (ml.erase (n.key, n.N)) ∧ Fr (LF L M dl) (LF L M dl) w w' := by
  have hn : n ∈ dl := h.sub n (by simp)
  have HL : Hid (Calls Try.prog 51 #[.pointer (some ⟨n.N, 0, none⟩)] w fun e w' => e = .returned (.tuple #[]) ∧ Hid (LX w' L M most cnt (a ++ b) dl ml ∧ Fr (LF L M dl) (LF L M dl) w w')) := h.leave
  have HK : Hid ((ml.map Prod.fst).Nodup ∧ (n.key, n.N) ∈ ml ∧ n ∈ dl) := ⟨hk, hin, hn⟩
  clear h hk hin hn
  go_enter Try.func49, Try.ntmps49
  go_upto_region 1 with (go_at_call 51; refine HL.out.mono ?_; rintro e w1 ⟨rfl, H1⟩)
  have y1 := H1.out.1.c1
  have f1 := H1.out.1.bk.free 1
  clear HL
  go_upto_region 2 with (fail)
  obtain ⟨W, hW⟩ : ∃ W, w1.setCell ⟨L, 1, none⟩ (.int .i64 (cnt - 1)) = W := ⟨_, rfl⟩
  have H2 : Hid (LX W L M most (cnt - 1) (a ++ b) dl ml ∧ Fr (LF L M dl) (LF L M dl) w W) := by
    obtain ⟨k1, k2⟩ := H1.out.1.count (cnt - 1)
    rw [← hW]
    exact ⟨k1, H1.out.2.trans' k2⟩
  rw [hW]
  clear hW y1 f1 H1
  obtain ⟨hb, z0, -, -⟩ := H2.out.1.nb n HK.out.2.2
  clear hb
  have HI : Hid (Calls Try.prog 55 #[.string (tx n.key)] W fun e w' => e = .returned (.bool true) ∧ Below W.heap.size W w') := itselfS n.key W
  go_upto_region 3 with (go_at_call 55; refine HI.out.mono ?_; rintro e w3 ⟨rfl, hb3⟩; (have HB3 : Hid (Below W.heap.size W w3) := hb3); clear hb3)
  clear z0 HI
  have H3 : Hid (LX w3 L M most (cnt - 1) (a ++ b) dl ml ∧ Fr (LF L M dl) (LF L M dl) w w3) := ⟨H2.out.1.newer HB3.out, H2.out.2.trans' (Fr.newer HB3.out)⟩
  obtain ⟨o, hdel, hmm⟩ := (H3.out.1.newer (drew_below w3)).mp.del HK.out.1 HK.out.2.1 0
  have HO : Hid (MM (setM w3.drew M o) M (ml.erase (n.key, n.N))) := hmm
  obtain ⟨V, hV⟩ : ∃ V, setM w3.drew M o = V := ⟨_, rfl⟩
  have H4 : Hid (LX V L M most (cnt - 1) (a ++ b) dl (ml.erase (n.key, n.N)) ∧ Fr (LF L M dl) (LF L M dl) w V) := by
    obtain ⟨k1, k2⟩ := (H3.out.1.newer (drew_below w3)).turnM HO.out
    rw [← hV]
    exact ⟨k1, (H3.out.2.trans' (Fr.newer (drew_below w3))).trans' k2⟩
  have c2 := H3.out.1.c2
  obtain ⟨hb, z0, -, -⟩ := H3.out.1.nb n HK.out.2.2
  rw [hV] at hdel
  clear hb hV HO H3 H2 hmm
  go_region
  all_goals
    go_end0
    exact ⟨rfl, H4.out⟩
theorem LF.more {q : Nat} {dl dl' : List Nod} (h : LF L M dl q) (hs : ∀ m ∈ dl, m ∈ dl') : LF L M dl' q := by
  rcases h with h | h | ⟨m, hm, e⟩
  · exact .inl h
  · exact .inr (.inl h)
  · exact .inr (.inr ⟨m, hs m hm, e⟩)
set_option maxRecDepth 20000 in
set_option maxHeartbeats 4000000 in
theorem LX.add (h : LX w L M most cnt l dl ml) {k : List UInt8} (hk : k ∉ ml.map Prod.fst) (st te : List UInt8) (hc1 : 0 ≤ cnt) (hc2 : cnt ≤ 1000000) : Calls Try.prog 50 #[.pointer (some ⟨L, 0, none⟩), .string (tx k), .agg #[.string (tx st), .string (tx te)]] w fun e w' => e = .returned (.tuple #[]) ∧ ∃ g, w.heap.size ≤ g ∧ LX w' L M most (cnt + 1) (⟨g, k, st, te⟩ :: l) (⟨g, k, st, te⟩ :: dl) (ml ++ [(k, g)]) ∧ Fr (LF L M dl) (LF L M (⟨g, k, st, te⟩ :: dl)) w w' := by
  have HX : Hid (LX w L M most cnt l dl ml) := h
  have HK : Hid (k ∉ ml.map Prod.fst) := hk
  clear h hk
  go_enter Try.func50, Try.ntmps50
  go_upto_region 2 with (fail)
  obtain ⟨W0, hW0⟩ : ∃ W, w.alloc (.cells #[.string (tx st), .string (tx te)] 76) = W := ⟨_, rfl⟩
  have hb0 : Below w.heap.size w W0 := by rw [← hW0]; exact bel1' _ _
  have hs0 : W0.heap.size = w.heap.size + 1 := by rw [← hW0]; simp
  obtain ⟨W, hW⟩ : ∃ W, W0.alloc (.cells #[.string (tx k), .string (tx st), .string (tx te), .pointer none, .pointer none] 90) = W := ⟨_, rfl⟩
  have hb1 : Below w.heap.size w W := by rw [← hW]; exact hb0.alloc (by omega) _
  have hg : W.heap[W0.heap.size]? = some (.cells #[.string (tx k), .string (tx st), .string (tx te), .pointer none, .pointer none] 90 (0, 0)) := by rw [← hW]; exact heap_alloc_new _ _
  rw [hs0] at hg
  rw [hW0, hW]
  obtain ⟨g, hgs⟩ : ∃ g, w.heap.size + 1 = g := ⟨_, rfl⟩
  have HG : Hid (w.heap.size ≤ g) := by show _ ≤ _; omega
  rw [hgs] at hg ⊢
  have HBN : Hid (LX W L M most cnt l (⟨g, k, st, te⟩ :: dl) ml ∧ Fr (LF L M dl) (LF L M (⟨g, k, st, te⟩ :: dl)) w W) := by
    refine ⟨HX.out.born k st te hb1 hg, ⟨hb1.os, hb1.tape, hb1.output, hb1.size, fun q hq _ => hb1.block q hq, ?_⟩⟩
    rintro q (h | h | ⟨m, hm, e⟩)
    · exact .inl (.inl h)
    · exact .inl (.inr (.inl h))
    · rcases List.mem_cons.1 hm with rfl | hm
      · exact .inr (by rw [← e]; exact HG.out)
      · exact .inl (.inr (.inr ⟨m, hm, e⟩))
  have hnl : g ∉ l.map Nod.N := fun e => by
    obtain ⟨m, hm, e⟩ := List.mem_map.1 e
    have := (HX.out.nb m (HX.out.sub m hm)).1.lt
    have := HG.out
    omega
  have HLD : Hid (Calls Try.prog 52 #[.pointer (some ⟨L, 0, none⟩), .pointer (some ⟨g, 0, none⟩)] W fun e w' => e = .returned (.tuple #[]) ∧ Hid (LX w' L M most cnt (⟨g, k, st, te⟩ :: l) (⟨g, k, st, te⟩ :: dl) ml ∧ Fr (LF L M (⟨g, k, st, te⟩ :: dl)) (LF L M (⟨g, k, st, te⟩ :: dl)) W w')) := HBN.out.1.lead (n := ⟨g, k, st, te⟩) (by simp) hnl
  clear hg hb0 hb1 hs0 hgs hW hW0 hnl
  obtain ⟨bx, hbx⟩ : ∃ bx, w.heap.size = bx := ⟨_, rfl⟩
  rw [hbx]
  clear hbx
  go_upto_region 3 with (go_at_call 52; refine HLD.out.mono ?_; rintro e w1 ⟨rfl, H1⟩)
  have y1 := H1.out.1.c1
  have f1 := H1.out.1.bk.free 1
  clear HLD
  go_upto_region 4 with (fail)
  obtain ⟨W2, hW2⟩ : ∃ W2, w1.setCell ⟨L, 1, none⟩ (.int .i64 (cnt + 1)) = W2 := ⟨_, rfl⟩
  have H2 : Hid (LX W2 L M most (cnt + 1) (⟨g, k, st, te⟩ :: l) (⟨g, k, st, te⟩ :: dl) ml ∧ Fr (LF L M dl) (LF L M (⟨g, k, st, te⟩ :: dl)) w W2) := by
    obtain ⟨k1, k2⟩ := H1.out.1.count (cnt + 1)
    rw [← hW2]
    exact ⟨k1, (HBN.out.2.trans' H1.out.2).trans' k2⟩
  rw [hW2]
  clear hW2 y1 f1 H1 HBN
  have HI : Hid (Calls Try.prog 55 #[.string (tx k)] W2 fun e w' => e = .returned (.bool true) ∧ Below W2.heap.size W2 w') := itselfS k W2
  go_upto_region 5 with (go_at_call 55; refine HI.out.mono ?_; rintro e w3 ⟨rfl, hb3⟩; (have HB3 : Hid (Below W2.heap.size W2 w3) := hb3); clear hb3)
  clear HI
  have H3 : Hid (LX w3 L M most (cnt + 1) (⟨g, k, st, te⟩ :: l) (⟨g, k, st, te⟩ :: dl) ml ∧ Fr (LF L M dl) (LF L M (⟨g, k, st, te⟩ :: dl)) w w3) := ⟨H2.out.1.newer HB3.out, H2.out.2.trans' (Fr.newer HB3.out)⟩
  obtain ⟨o, hput, hmm⟩ := H3.out.1.mp.put HK.out g
  have HO : Hid (MM (setM w3 M o) M (ml ++ [(k, g)])) := hmm
  obtain ⟨V, hV⟩ : ∃ V, setM w3 M o = V := ⟨_, rfl⟩
  have H4 : Hid (LX V L M most (cnt + 1) (⟨g, k, st, te⟩ :: l) (⟨g, k, st, te⟩ :: dl) (ml ++ [(k, g)]) ∧ Fr (LF L M dl) (LF L M (⟨g, k, st, te⟩ :: dl)) w V) := by
    obtain ⟨k1, k2⟩ := H3.out.1.turnM HO.out
    rw [← hV]
    exact ⟨k1, H3.out.2.trans' k2⟩
  have c2 := H3.out.1.c2
  rw [hV] at hput
  clear hV HO H3 H2 hmm
  go_wp2_with fail
  go_end0
  exact ⟨rfl, g, HG.out, H4.out⟩
end Go.Proofs.Ytbcdaddbcjagjaa
