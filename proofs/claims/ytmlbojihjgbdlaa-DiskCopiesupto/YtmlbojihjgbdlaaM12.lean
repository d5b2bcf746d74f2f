import Derived.Test.YtmlbojihjgbdlaaM11
import Derived.Shelf.SlIter.Nil
import Derived.Shelf.SortM.Plain
import Derived.Shelf.SortM.SortNone
import Derived.Test.YtmlbojihjgbdlaaProg
import Derived.Test.YtmlbojihjgbdlaaM08
import Derived.Sort.Walk0
import Derived.Deep.RegionHeld3
/- Each call of each side, in the words of the pure steps. -/
namespace Go.Proofs.Ytmlbojihjgbdlaa.D
open Go.RowKit
set_option linter.unusedVariables false
set_option linter.unusedSimpArgs false

variable {w w' : World} {D R k : Nat} {sy : Int} {F G P : Nat → Prop} {dl : List Fd} {s s' : List UInt8} {x : Fd} {bs : List Int} {sv kv : Value} {ks : List Kn}
theorem tf : ¬ (true = false) := by decide
theorem resA_new (h : lkF s dl = none) (bs : List Int) : resA s ⟨s, [], []⟩ bs (insF ⟨s, [], []⟩ dl) = insF ⟨s, bs, if bs = [] then [] else [0]⟩ dl := by
  unfold resA
  rw [(setF_ins s h).1]
  rfl
theorem ren_perm (hnd : (dl.map Fd.nm).Nodup) (h : lkF s dl = some x) : (outF s' (outF s dl) ++ [(⟨s', x.b, x.ws⟩ : Fd)]).Perm (renF s s' x dl) := by
  unfold renF
  split
  · rename_i e
    subst e
    obtain ⟨hn, -⟩ := lkF_some h
    have h2 := outF_perm h
    have h3 := (h2.map Fd.nm).nodup_iff.1 hnd
    rw [List.map_append] at h3
    have hno : lkF s (outF s dl) = none := lkF_none.2 fun hm => (List.nodup_append.1 h3).2.2 s hm s (by simp [hn]) rfl
    rw [outF_none hno, show (⟨s, x.b, x.ws⟩ : Fd) = x by rw [← hn]]
    exact h2.symm
  · exact (List.perm_append_comm (l₂ := [_])).trans (insF_perm _ _)
theorem p_append (h : DR w D F sy dl) (i : Inv k sy dl) (hk : k ≤ 1000000) (hl : (s.length : Int) ≤ 140737488351232) (hsv : SrcG w F sv bs) (hb : bs.length ≤ 1048576) :
    Calls Try.prog 23 #[.pointer (some ⟨D, 0, none⟩), .string (tx s), sv] w fun e w' => e = .returned (.int .i64 (apE s bs dl)) ∧ ∃ F', DR w' D F' sy (apD s bs dl) ∧ Fr F F' w w' := by
  unfold apE apD
  cases hn : nameB s with
  | false =>
    refine (append_key h hl hn sv).mono ?_
    rintro e w' ⟨rfl, rfl⟩
    exact ⟨rfl, F, h, Fr.refl _ _⟩
  | true =>
    rw [if_neg tf, if_neg tf]
    cases hs : lkF s dl with
    | some x =>
      obtain ⟨a1, a2, a3, a4⟩ := i.each x (lk_mem hs)
      dsimp only
      by_cases hf : (bs.length : Int) ≤ 1048576 - x.b.length
      · rw [if_pos hf, if_pos hf]
        exact append_thereG h hs hl hn hsv a2 (by omega) hf
      · rw [if_neg hf, if_neg hf]
        refine (append_size h hs hl hn (hsv w fun _ _ _ => rfl).slice a2 hf (by omega)).mono ?_
        rintro e w' ⟨rfl, rfl⟩
        exact ⟨rfl, F, h, Fr.refl _ _⟩
    | none =>
      dsimp only
      refine (append_newG h hs hl hn hsv i.len (by omega)).mono ?_
      rintro e w' ⟨he, F', h1, h2⟩
      rw [if_neg (by omega)] at he h1
      refine ⟨he, F', ?_, h2⟩
      split
      · rename_i h64
        rw [if_pos h64] at h1
        exact h1
      · rename_i h64
        rw [if_neg h64] at h1
        rw [resA_new hs]
        exact h1.perm ((List.perm_append_comm (l₂ := [_])).trans (insF_perm _ _))
theorem m_append (h : MR w R G sy dl) (i : Inv k sy dl) (hk : k ≤ 1000000) (hl : (s.length : Int) ≤ 140737488351232) (hsv : SrcG w G sv bs) (hb : bs.length ≤ 1048576) :
    Calls Try.prog 32 #[.pointer (some ⟨R, 0, none⟩), .string (tx s), sv] w fun e w' => e = .returned (.int .i64 (apE s bs dl)) ∧ ∃ G', MR w' R G' sy (apD s bs dl) ∧ Fr G G' w w' := by
  unfold apE apD
  cases hn : nameB s with
  | false =>
    refine (rappend_key h hl hn sv).mono ?_
    rintro e w' ⟨rfl, rfl⟩
    exact ⟨rfl, G, h, Fr.refl _ _⟩
  | true =>
    rw [if_neg tf, if_neg tf]
    cases hs : lkF s dl with
    | some x =>
      obtain ⟨a1, a2, a3, a4⟩ := i.each x (lk_mem hs)
      dsimp only
      by_cases hf : (bs.length : Int) ≤ 1048576 - x.b.length
      · rw [if_pos hf, if_pos hf]
        exact (rappend_ok h i.len hl hn hsv (.inl ⟨hs, rfl⟩) a2 (by omega) hf).mono fun e w' h => ⟨h.1, h.2.out⟩
      · rw [if_neg hf, if_neg hf]
        refine (rappend_size h (by have := i.len; omega) hs hl hn hsv.now.slice a2 hf (by omega)).mono ?_
        rintro e w' ⟨rfl, rfl⟩
        exact ⟨rfl, G, h, Fr.refl _ _⟩
    | none =>
      dsimp only
      have hlen := i.len
      by_cases h64 : dl.length = 64
      · rw [if_pos h64, if_pos h64]
        refine (rappend_none h hlen hs hl hn hsv.now.slice (by omega) (.inr h64)).mono ?_
        rintro e w' ⟨rfl, rfl⟩
        exact ⟨by rw [if_neg (by omega)], G, h, Fr.refl _ _⟩
      · rw [if_neg h64, if_neg h64]
        exact (rappend_ok h hlen hl hn hsv (.inr ⟨hs, by omega, rfl, rfl⟩) (by simp) (by simp) (by simp; omega)).mono fun e w' h => ⟨h.1, h.2.out⟩
theorem p_sync (h : DR w D F sy dl) (i : Inv k sy dl) (hk : k ≤ 1000000) : Calls Try.prog 24 #[.pointer (some ⟨D, 0, none⟩), .string (tx s)] w fun e w' => e = .returned (.int .i64 (syE s dl)) ∧ ∃ F', DR w' D F' (syN s dl sy) (syD s dl) ∧ Fr F F' w w' := by
  unfold syE syN syD
  cases hs : lkF s dl with
  | none =>
    refine (sync_no h hs).mono ?_
    rintro e w' ⟨rfl, rfl⟩
    exact ⟨rfl, F, h, Fr.refl _ _⟩
  | some x => exact sync_yes h hs i.lo (by have := i.hi; omega)
theorem m_sync (h : MR w R G sy dl) (i : Inv k sy dl) (hk : k ≤ 1000000) : Calls Try.prog 35 #[.pointer (some ⟨R, 0, none⟩), .string (tx s)] w fun e w' => e = .returned (.int .i64 (syE s dl)) ∧ ∃ G', MR w' R G' (syN s dl sy) (syD s dl) ∧ Fr G G' w w' := by
  have hlen := i.len
  unfold syE syN syD
  cases hs : lkF s dl with
  | none =>
    refine (rsync_no h (by omega) hs).mono ?_
    rintro e w' ⟨rfl, rfl⟩
    exact ⟨rfl, G, h, Fr.refl _ _⟩
  | some x =>
    obtain ⟨a1, a2, a3, a4⟩ := i.each x (lk_mem hs)
    exact (rsync_yes h (by omega) hs (by omega) i.lo (by have := i.hi; omega)).mono fun e w' h => ⟨h.1, h.2.out⟩
theorem p_cut (h : DR w D F sy dl) (i : Inv k sy dl) (n : Int) : Calls Try.prog 25 #[.pointer (some ⟨D, 0, none⟩), .string (tx s), .int .i64 n] w fun e w' => e = .returned (.int .i64 (cuE s n dl)) ∧ ∃ F', DR w' D F' sy (cuD s n dl) ∧ Fr F F' w w' := by
  unfold cuE cuD
  cases hs : lkF s dl with
  | none =>
    refine (cut_no h hs n).mono ?_
    rintro e w' ⟨rfl, rfl⟩
    exact ⟨rfl, F, h, Fr.refl _ _⟩
  | some x =>
    obtain ⟨a1, a2, a3, a4⟩ := i.each x (lk_mem hs)
    dsimp only
    by_cases c : n < 0 ∨ (x.b.length : Int) < n
    · rw [if_pos c, if_pos c]
      refine (cut_bad h hs (by omega) n c).mono ?_
      rintro e w' ⟨rfl, rfl⟩
      exact ⟨rfl, F, h, Fr.refl _ _⟩
    · rw [if_neg c, if_neg c]
      have := cut_yes h hs (by omega) n.toNat (by omega)
      rw [show ((n.toNat : Nat) : Int) = n by omega] at this
      exact this
theorem m_cut (h : MR w R G sy dl) (i : Inv k sy dl) (n : Int) : Calls Try.prog 36 #[.pointer (some ⟨R, 0, none⟩), .string (tx s), .int .i64 n] w fun e w' => e = .returned (.int .i64 (cuE s n dl)) ∧ ∃ G', MR w' R G' sy (cuD s n dl) ∧ Fr G G' w w' := by
  have hlen := i.len
  unfold cuE cuD
  cases hs : lkF s dl with
  | none =>
    refine (rcut_no h (by omega) hs n).mono ?_
    rintro e w' ⟨rfl, rfl⟩
    exact ⟨rfl, G, h, Fr.refl _ _⟩
  | some x =>
    obtain ⟨a1, a2, a3, a4⟩ := i.each x (lk_mem hs)
    dsimp only
    by_cases c : n < 0 ∨ (x.b.length : Int) < n
    · rw [if_pos c, if_pos c]
      refine (rcut_bad h (by omega) hs (by omega) n c).mono ?_
      rintro e w' ⟨rfl, hb⟩
      exact ⟨rfl, G, h.newer hb, Fr.newer hb⟩
    · rw [if_neg c, if_neg c]
      have := rcut_yes h (by omega) hs (by omega) n.toNat (by omega)
      rw [show ((n.toNat : Nat) : Int) = n by omega] at this
      exact this.mono fun e w' h => ⟨h.1, h.2.out⟩
theorem p_move (h : DR w D F sy dl) (hl : (s'.length : Int) ≤ 140737488351232) : Calls Try.prog 30 #[.pointer (some ⟨D, 0, none⟩), .string (tx s), .string (tx s')] w fun e w' => e = .returned (.int .i64 (mvE s s' dl)) ∧ ∃ F', DR w' D F' sy (mvD s s' dl) ∧ Fr F F' w w' := by
  unfold mvE mvD
  cases hs : lkF s dl with
  | none =>
    refine (rename_no h hs _).mono ?_
    rintro e w' ⟨rfl, rfl⟩
    exact ⟨rfl, F, h, Fr.refl _ _⟩
  | some x =>
    dsimp only
    cases hn : nameB s' with
    | false =>
      refine (rename_bad h hs hl hn).mono ?_
      rintro e w' ⟨rfl, rfl⟩
      exact ⟨rfl, F, h, Fr.refl _ _⟩
    | true =>
      rw [if_neg tf, if_neg tf]
      refine (rename_yes h hs hl hn).mono ?_
      rintro e w' ⟨he, F', h1, h2⟩
      exact ⟨he, F', h1.perm (ren_perm h.nd hs), h2⟩
theorem m_move (h : MR w R G sy dl) (i : Inv k sy dl) (hl : (s'.length : Int) ≤ 140737488351232) : Calls Try.prog 37 #[.pointer (some ⟨R, 0, none⟩), .string (tx s), .string (tx s')] w fun e w' => e = .returned (.int .i64 (mvE s s' dl)) ∧ ∃ G', MR w' R G' sy (mvD s s' dl) ∧ Fr G G' w w' := by
  have hlen := i.len
  unfold mvE mvD
  cases hs : lkF s dl with
  | none =>
    refine (rrename_no h (by omega) hs _).mono ?_
    rintro e w' ⟨rfl, rfl⟩
    exact ⟨rfl, G, h, Fr.refl _ _⟩
  | some x =>
    dsimp only
    cases hn : nameB s' with
    | false =>
      refine (rrename_bad h (by omega) hs hl hn).mono ?_
      rintro e w' ⟨rfl, rfl⟩
      exact ⟨rfl, G, h, Fr.refl _ _⟩
    | true =>
      rw [if_neg tf, if_neg tf]
      exact (rrename_yes h (by omega) hs hl hn).mono fun e w' h => ⟨h.1, h.2.out⟩
theorem p_remove (h : DR w D F sy dl) : Calls Try.prog 26 #[.pointer (some ⟨D, 0, none⟩), .string (tx s)] w fun e w' => e = .returned (.int .i64 (rmE s dl)) ∧ ∃ F', DR w' D F' sy (rmD s dl) ∧ Fr F F' w w' := by
  unfold rmE rmD
  cases hs : lkF s dl with
  | none =>
    refine (remove_no h hs).mono ?_
    rintro e w' ⟨rfl, rfl⟩
    exact ⟨rfl, F, by rw [outF_none hs]; exact h, Fr.refl _ _⟩
  | some x => exact remove_yes h hs
theorem m_remove (h : MR w R G sy dl) (i : Inv k sy dl) : Calls Try.prog 38 #[.pointer (some ⟨R, 0, none⟩), .string (tx s)] w fun e w' => e = .returned (.int .i64 (rmE s dl)) ∧ ∃ G', MR w' R G' sy (rmD s dl) ∧ Fr G G' w w' := by
  have hlen := i.len
  unfold rmE rmD
  cases hs : lkF s dl with
  | none =>
    refine (rremove_no h (by omega) hs).mono ?_
    rintro e w' ⟨rfl, rfl⟩
    exact ⟨rfl, G, by rw [outF_none hs]; exact h, Fr.refl _ _⟩
  | some x => exact (rremove_yes h (by omega) hs).mono fun e w' h => ⟨h.1, h.2.out⟩
theorem Inv.cr (i : Inv k sy dl) (hk : k ≤ 1000000) : ∀ x ∈ dl, x.b.length ≤ 2000000 ∧ x.ws.length ≤ 2000000 ∧ WsOk x.b.length x.ws := fun x hx => by
  obtain ⟨a1, a2, a3, a4⟩ := i.each x hx
  exact ⟨by omega, by omega, a4⟩
theorem p_crash (h : DR w D F sy dl) (i : Inv k sy dl) (hk : k ≤ 1000000) (hkv : KeepsAt P w kv ks) (hP : ∀ q, P q → q < w.heap.size ∧ ¬ F q) (hkl : ks.length ≤ 1048576) : Calls Try.prog 16 #[.pointer (some ⟨D, 0, none⟩), kv] w fun e w' => e = .returned (.int .i64 (wrE dl [] ks)) ∧ ∃ F', DR w' D F' sy (crA dl ks) ∧ Fr F F' w w' :=
  (crash_all h hkv hP (i.cr hk) (by omega)).mono fun e w' h => ⟨h.1, h.2.out⟩
theorem m_crash (h : MR w R G sy dl) (i : Inv k sy dl) (hk : k ≤ 1000000) (hkv : KeepsAt P w kv ks) (hP : ∀ q, P q → q < w.heap.size ∧ ¬ G q) (hkl : ks.length ≤ 1048576) : Calls Try.prog 39 #[.pointer (some ⟨R, 0, none⟩), kv] w fun e w' => e = .returned (.int .i64 (wrE dl [] ks)) ∧ ∃ G', MR w' R G' sy (crA dl ks) ∧ Fr G G' w w' :=
  (rcrash_all h hkv hP (i.cr hk) (by have := i.len; omega) (by omega)).mono fun e w' h => ⟨h.1, h.2.out⟩
end Go.Proofs.Ytmlbojihjgbdlaa.D

/- The shelf laid at this dump: maps.Keys, slices.Sorted, slices.Sort of texts. -/
namespace Go.Proofs
open Go.Shelf
def Try.keys53_ren : Go.Shelf.Ren := ⟨fun | 7 => 53 | 10 => 66 | n => n, fun | 23 => 68 | 26 => 9 | 3 => 77 | 28 => 92 | 0 => 0 | 27 => 91 | 33 => 25 | 4 => 4 | n => n, fun | n => n⟩
theorem Try.keys53 : Go.Proofs.SlLaysZ.n7 Try.prog Try.keys53_ren := {
  mixed := by kernel_rfl
  f7 := ⟨Try.f53.name, by decide, Try.func53.trans (congrArg some (by kernel_rfl))⟩
  f10 := ⟨Try.f66.name, by decide, Try.func66.trans (congrArg some (by kernel_rfl))⟩
  t0 := Try.underlying0
  a0 := Try.isAgg0
  z0 := Try.sizeOf0
  v0 := Try.zeroValue0
  t4 := Try.underlying4
  a4 := Try.isAgg4
  z4 := Try.sizeOf4
  v4 := Try.zeroValue4
  t23 := Try.underlying68
  a23 := Try.isAgg68
  z23 := Try.sizeOf68
  v23 := Try.zeroValue68
  t26 := Try.underlying9
  a26 := Try.isAgg9
  z26 := Try.sizeOf9
  v26 := Try.zeroValue9
  t27 := Try.underlying91
  a27 := Try.isAgg91
  z27 := Try.sizeOf91
  v27 := Try.zeroValue91
  t28 := Try.underlying92
  a28 := Try.isAgg92
  z28 := Try.sizeOf92
  v28 := Try.zeroValue92
  t33 := Try.underlying25
  a33 := Try.isAgg25
  z33 := Try.sizeOf25
  v33 := Try.zeroValue25 }
def Try.sorted52_ren : Go.Shelf.Ren := ⟨fun | 6 => 52 | 8 => 64 | 9 => 65 | 11 => 67 | 13 => 69 | 12 => 68 | 23 => 79 | 24 => 80 | 14 => 70 | 15 => 71 | 16 => 72 | 17 => 73 | 18 => 74 | 19 => 75 | 20 => 76 | 21 => 77 | 22 => 78 | 25 => 81 | 26 => 82 | 27 => 83 | 28 => 84 | 29 => 85 | 30 => 86 | 31 => 87 | n => n, fun | 26 => 9 | 28 => 92 | 24 => 89 | 0 => 0 | 3 => 3 | 37 => 106 | 48 => 116 | 50 => 118 | 4 => 4 | 40 => 109 | 39 => 108 | 45 => 75 | 5 => 5 | 9 => 9 | 51 => 119 | 55 => 123 | 57 => 125 | 58 => 126 | 33 => 25 | n => n, fun | n => n⟩
theorem Try.sorted52 : Go.Proofs.SlLaysZ.n6 Try.prog Try.sorted52_ren := {
  mixed := by kernel_rfl
  f6 := ⟨Try.f52.name, by decide, Try.func52.trans (congrArg some (by kernel_rfl))⟩
  f8 := ⟨Try.f64.name, by decide, Try.func64.trans (congrArg some (by kernel_rfl))⟩
  f11 := ⟨Try.f67.name, by decide, Try.func67.trans (congrArg some (by kernel_rfl))⟩
  t0 := Try.underlying0
  a0 := Try.isAgg0
  z0 := Try.sizeOf0
  v0 := Try.zeroValue0
  t24 := Try.underlying89
  a24 := Try.isAgg89
  z24 := Try.sizeOf89
  v24 := Try.zeroValue89
  t26 := Try.underlying9
  a26 := Try.isAgg9
  z26 := Try.sizeOf9
  v26 := Try.zeroValue9
  t28 := Try.underlying92
  a28 := Try.isAgg92
  z28 := Try.sizeOf92
  v28 := Try.zeroValue92
  i26 := by kernel_rfl }
def Try.sort65_ren : Go.Shelf.Ren := ⟨fun | 6 => 65 | 8 => 69 | 9 => 68 | 19 => 79 | 20 => 80 | 21 => 70 | 22 => 71 | 23 => 72 | 24 => 73 | 25 => 74 | 26 => 75 | 27 => 76 | 28 => 77 | 29 => 78 | 36 => 81 | 31 => 82 | 32 => 83 | 37 => 84 | 38 => 85 | 39 => 86 | 41 => 87 | n => n, fun | 27 => 89 | 29 => 9 | 3 => 3 | 32 => 106 | 26 => 89 | 0 => 0 | 44 => 116 | 46 => 118 | 4 => 4 | 36 => 109 | 35 => 108 | 41 => 75 | 5 => 5 | 9 => 9 | 53 => 119 | 57 => 123 | 63 => 125 | 64 => 126 | n => n, fun | n => n⟩
theorem Try.sort65 : Go.Proofs.SlLaysM.n6 Try.prog Try.sort65_ren := {
  mixed := by kernel_rfl
  f6 := ⟨Try.f65.name, by decide, Try.func65.trans (congrArg some (by kernel_rfl))⟩
  f8 := Try.func69.trans (congrArg some (by kernel_rfl))
  f9 := ⟨Try.f68.name, by decide, Try.func68.trans (congrArg some (by kernel_rfl))⟩
  f19 := Try.func79.trans (congrArg some (by kernel_rfl))
  f20 := Try.func80.trans (congrArg some (by kernel_rfl))
  f21 := ⟨Try.f70.name, by decide, Try.func70.trans (congrArg some (by kernel_rfl))⟩
  f22 := ⟨Try.f71.name, by decide, Try.func71.trans (congrArg some (by kernel_rfl))⟩
  f23 := ⟨Try.f72.name, by decide, Try.func72.trans (congrArg some (by kernel_rfl))⟩
  f24 := ⟨Try.f73.name, by decide, Try.func73.trans (congrArg some (by kernel_rfl))⟩
  f25 := ⟨Try.f74.name, by decide, Try.func74.trans (congrArg some (by kernel_rfl))⟩
  f26 := ⟨Try.f75.name, by decide, Try.func75.trans (congrArg some (by kernel_rfl))⟩
  f27 := ⟨Try.f76.name, by decide, Try.func76.trans (congrArg some (by kernel_rfl))⟩
  f28 := ⟨Try.f77.name, by decide, Try.func77.trans (congrArg some (by kernel_rfl))⟩
  f29 := ⟨Try.f78.name, by decide, Try.func78.trans (congrArg some (by kernel_rfl))⟩
  f31 := Try.func82.trans (congrArg some (by kernel_rfl))
  f32 := Try.func83.trans (congrArg some (by kernel_rfl))
  f36 := ⟨Try.f81.name, by decide, Try.func81.trans (congrArg some (by kernel_rfl))⟩
  f37 := ⟨Try.f84.name, by decide, Try.func84.trans (congrArg some (by kernel_rfl))⟩
  f38 := ⟨Try.f85.name, by decide, Try.func85.trans (congrArg some (by kernel_rfl))⟩
  f39 := ⟨Try.f86.name, by decide, Try.func86.trans (congrArg some (by kernel_rfl))⟩
  f41 := ⟨Try.f87.name, by decide, Try.func87.trans (congrArg some (by kernel_rfl))⟩
  t0 := Try.underlying0
  a0 := Try.isAgg0
  z0 := Try.sizeOf0
  v0 := Try.zeroValue0
  t3 := Try.underlying3
  a3 := Try.isAgg3
  z3 := Try.sizeOf3
  v3 := Try.zeroValue3
  t4 := Try.underlying4
  a4 := Try.isAgg4
  z4 := Try.sizeOf4
  v4 := Try.zeroValue4
  t5 := Try.underlying5
  a5 := Try.isAgg5
  z5 := Try.sizeOf5
  v5 := Try.zeroValue5
  t9 := Try.underlying9
  a9 := Try.isAgg9
  z9 := Try.sizeOf9
  v9 := Try.zeroValue9
  t26 := Try.underlying89
  a26 := Try.isAgg89
  z26 := Try.sizeOf89
  v26 := Try.zeroValue89
  t27 := Try.underlying89
  a27 := Try.isAgg89
  z27 := Try.sizeOf89
  v27 := Try.zeroValue89
  t29 := Try.underlying9
  a29 := Try.isAgg9
  z29 := Try.sizeOf9
  v29 := Try.zeroValue9
  t32 := Try.underlying106
  a32 := Try.isAgg106
  z32 := Try.sizeOf106
  v32 := Try.zeroValue106
  t35 := Try.underlying108
  a35 := Try.isAgg108
  z35 := Try.sizeOf108
  v35 := Try.zeroValue108
  t36 := Try.underlying109
  a36 := Try.isAgg109
  z36 := Try.sizeOf109
  v36 := Try.zeroValue109
  t41 := Try.underlying75
  a41 := Try.isAgg75
  z41 := Try.sizeOf75
  v41 := Try.zeroValue75
  t44 := Try.underlying116
  a44 := Try.isAgg116
  z44 := Try.sizeOf116
  v44 := Try.zeroValue116
  t46 := Try.underlying118
  a46 := Try.isAgg118
  z46 := Try.sizeOf118
  v46 := Try.zeroValue118
  t53 := Try.underlying119
  a53 := Try.isAgg119
  z53 := Try.sizeOf119
  v53 := Try.zeroValue119
  t57 := Try.underlying123
  a57 := Try.isAgg123
  z57 := Try.sizeOf123
  v57 := Try.zeroValue123
  t63 := Try.underlying125
  a63 := Try.isAgg125
  z63 := Try.sizeOf125
  v63 := Try.zeroValue125
  t64 := Try.underlying126
  a64 := Try.isAgg126
  z64 := Try.sizeOf126
  v64 := Try.zeroValue126 }
end Go.Proofs

/- slices.Sorted of maps.Keys, at this dump. -/
namespace Go.Proofs
open Go.RowKit Go.Maps Go.Sort Go.Shelf

theorem Try.sorts52 (m : Nat) : AnyZ.SortsIn Try.prog Try.sorted52_ren Fence.wide m :=
  ⟨fun blk off cap ss W hH hblk hsz => callsIn_wide.2 (AnyM.slices_Sort_string Try.sort65 blk off cap ss W hH hblk hsz),
   fun p cap W => callsIn_wide.2 (AnyM.slices_Sort_string_none Try.sort65 p cap W)⟩

theorem Try.maps_Keys_53 (mb : Option Nat) (W : World) : CallsIn Fence.wide 5 Try.prog 53 #[.map mb] W fun e w' => e = .returned (.func (.func 66) #[] #[.pointer (some ⟨W.heap.size, 0, none⟩)]) ∧ w' = W.alloc (.cells #[.map mb] 68) :=
  AnyZ.keys_in Try.keys53 Fence.wide 5 trivial rfl mb W

set_option maxHeartbeats 1000000 in
theorem Try.slices_Sorted_keys_52_53 {H : Type} (b nn : Nat) (D0 : DataW H) (R : Value → Option (DataW H × List MemPlace)) (w : World) (hown : w.ownsMap Try.prog 9 R b nn D0) (hmax : Maps.size D0 ≤ maxLen) (hbytes : Maps.size D0 * 16 ≤ 140737488355328) :
    CallsIn Fence.wide 5 Try.prog 52 #[.func (.func 66) #[] #[.pointer (some ⟨w.heap.size, 0, none⟩)]] (w.alloc (.cells #[.map (some b)] 68)) fun e w' => ∃ (v : Value) (ss : List (List UInt8)), e = .returned v ∧ ss.Perm (strKeys D0) ∧
      w'.ownsRow (w.alloc (.cells #[.map (some b)] 68)).heap.size 9 1 v ss.length ((ss.mergeSort (fun x y => decide (x ≤ y))).map encStr) ∧ (v = .slice none 0 0 ↔ ss = []) ∧ Below (w.alloc (.cells #[.map (some b)] 68)).heap.size (w.alloc (.cells #[.map (some b)] 68)) w' := by
  have hbl := hown.lt
  have hseq : SeqGives Fence.wide 2 Try.prog 66 #[.pointer (some ⟨w.heap.size, 0, none⟩)] encStr (fun ss => ss.Perm (strKeys D0)) (Maps.size D0) (w.alloc (.cells #[.map (some b)] 68)) :=
    AnyZ.keys_gives (ρ := Try.keys53_ren) { Try.keys53 with } Fence.wide _ trivial rfl (by omega) w.heap.size b nn D0 _ (by simp) (by simp) (by
      obtain ⟨es, clock, hb, Ft, hs, hD⟩ := hown
      exact ⟨es, clock, (Below.heap_alloc _ _ b hbl).trans hb, Ft, hs, hD⟩)
  exact AnyZ.sorted_in Try.sorted52 Fence.wide 5 trivial trivial trivial trivial rfl (by omega) (Try.sorts52 _) (enters_of Try.func65 (by kernel_rfl) rfl) 66 #[.pointer (some ⟨w.heap.size, 0, none⟩)] trivial (enters_of Try.func66 (by kernel_rfl) rfl) _ _ hmax hbytes _ hseq

set_option maxHeartbeats 1000000 in
theorem Try.slices_Sorted_keys_nil_52_53 (w : World) :
    CallsIn Fence.wide 5 Try.prog 52 #[.func (.func 66) #[] #[.pointer (some ⟨w.heap.size, 0, none⟩)]] (w.alloc (.cells #[.map none] 68)) fun e w' => ∃ (v : Value) (ss : List (List UInt8)), e = .returned v ∧ ss = [] ∧
      w'.ownsRow (w.alloc (.cells #[.map none] 68)).heap.size 9 1 v ss.length ((ss.mergeSort (fun x y => decide (x ≤ y))).map encStr) ∧ (v = .slice none 0 0 ↔ ss = []) ∧ Below (w.alloc (.cells #[.map none] 68)).heap.size (w.alloc (.cells #[.map none] 68)) w' := by
  have hseq : SeqGives Fence.wide 2 Try.prog 66 #[.pointer (some ⟨w.heap.size, 0, none⟩)] encStr (fun ss : List (List UInt8) => ss = []) 0 (w.alloc (.cells #[.map none] 68)) :=
    AnyZ.keys_gives_nil (ρ := Try.keys53_ren) { Try.keys53 with } Fence.wide _ trivial rfl w.heap.size _ (by simp) (by simp)
  exact AnyZ.sorted_in Try.sorted52 Fence.wide 5 trivial trivial trivial trivial rfl (by omega) (Try.sorts52 _) (enters_of Try.func65 (by kernel_rfl) rfl) 66 #[.pointer (some ⟨w.heap.size, 0, none⟩)] trivial (enters_of Try.func66 (by kernel_rfl) rfl) _ 0 (Nat.zero_le _) (by omega) _ hseq

end Go.Proofs

/- Names of a disk's files, sorted. -/
namespace Go.Proofs.Ytmlbojihjgbdlaa.D
open Go.RowKit
set_option linter.unusedVariables false
set_option linter.unusedSimpArgs false

variable {w w' : World} {D : Nat} {F : Nat → Prop} {sy : Int} {dl : List Fd}
/-- Any element reads as nothing. -/
def RU (v : Value) : Option (DataW Unit × List MemPlace) := some (.nil, [])
theorem key_of {s : List UInt8} (h : s.length ≤ 32) : keyOf Try.prog 9 (.string (tx s)) = some (.string s) := by
  have hs : (tx s).size ≤ maxLen := by rw [tx_size]; unfold maxLen; omega
  simp [keyOf, under9, mapKey, hs]
  simp [tx]
theorem rd_of (e : En) (h : e.nm.length ≤ 32) : WideElems.rd Try.prog 9 RU ⟨.string (tx e.nm), .pointer (some ⟨e.q, 0, none⟩), e.born⟩ = some (.string e.nm, .nil) := by
  simp [WideElems.rd, key_of h, RU]
theorem fit_of {es : List En} {c : Nat} (h : ∀ e ∈ es, e.nm.length ≤ 32) (hB : Bok es c) (hn : (es.map En.nm).Nodup) (hl : es.length ≤ 1000000) : WideElems.Fit Try.prog 9 RU (ents es).toArray c := by
  refine ⟨by simp [ents]; unfold maxLen; omega, ⟨fun x hx => ?_, ?_, ?_⟩, fun x hx => ?_⟩
  · simp [ents] at hx
    obtain ⟨e, he, rfl⟩ := hx
    exact hB.lt e he
  · have : (ents es).toArray.toList.map (·.born) = es.map En.born := by simp [ents, Function.comp_def]
    rw [this]
    exact hB.nd
  · have : (ents es).toArray.toList.map (·.key) = (es.map En.nm).map fun s => Value.string (tx s) := by simp [ents, Function.comp_def]
    rw [this]
    refine List.pairwise_map.2 (hn.imp fun {a b} hab e => hab ?_)
    injection e with e
    exact tx_inj e
  · simp [ents] at hx
    obtain ⟨e, he, rfl⟩ := hx
    exact ⟨_, rd_of e (h e he)⟩
theorem rgs_of : ∀ {es : List En}, (∀ e ∈ es, e.nm.length ≤ 32) → (ents es).map (WideElems.rg Try.prog 9 RU) = es.map fun e => (Lit.string e.nm, DataW.nil)
  | [], _ => rfl
  | e :: r, h => by
    have ih := rgs_of (es := r) fun x hx => h x (by simp [hx])
    have h1 := rd_of e (h e (by simp))
    show WideElems.rg Try.prog 9 RU ⟨.string (tx e.nm), .pointer (some ⟨e.q, 0, none⟩), e.born⟩ :: (ents r).map _ = _
    rw [ih]
    unfold WideElems.rg
    rw [h1]
    rfl
theorem owns_map {K c : Nat} {es : List En} (hm : MapAt w K es c) (h : ∀ e ∈ es, e.nm.length ≤ 32) (hB : Bok es c) (hn : (es.map En.nm).Nodup) (hl : es.length ≤ 1000000) : ∃ DU : DataW Unit, w.ownsMap Try.prog 9 RU K es.length DU ∧ (strKeys DU).Perm (es.map En.nm) ∧ Maps.size DU = es.length := by
  have hp : ((((ents es).toArray.toList).map (WideElems.rg Try.prog 9 RU)).foldr DataW.insert []).Perm (es.map fun e => (Lit.string e.nm, DataW.nil)) := by
    have := WideShapes.sorted_perm (((ents es).toArray.toList).map (WideElems.rg Try.prog 9 RU))
    rw [show (ents es).toArray.toList = ents es from rfl, rgs_of h] at this
    rw [show (ents es).toArray.toList = ents es from rfl, rgs_of h]
    exact this
  refine ⟨_, ⟨(ents es).toArray, c, hm, fit_of h hB hn hl, by simp [ents], rfl⟩, ?_, ?_⟩
  · have h2 := hp.map fun p => strOf p.1
    have e : ((es.map fun e => (Lit.string e.nm, (DataW.nil : DataW Unit))).map fun p => strOf p.1) = es.map En.nm := by rw [List.map_map]; rfl
    rw [e] at h2
    exact h2
  · have := hp.length_eq
    simpa [Maps.size] using this
/-- Do names stand in order? -/
def SrtL (l : List (List UInt8)) : Prop := l.Pairwise fun a b => leB a b = true
theorem sort_of {l l' : List (List UInt8)} (hp : l.Perm l') (hs : SrtL l') : l.mergeSort leB = l' := by
  have tr : ∀ a b c : List UInt8, leB a b = true → leB b c = true → leB a c = true := fun a b c h1 h2 => by simp only [leB, decide_eq_true_eq] at *; exact List.le_trans h1 h2
  have tot : ∀ a b : List UInt8, (leB a b || leB b a) = true := fun a b => by simp only [leB, Bool.or_eq_true, decide_eq_true_eq]; exact List.le_total a b
  refine List.Perm.eq_of_pairwise (le := fun a b => leB a b = true) (fun a b _ _ h1 h2 => ?_) (List.pairwise_mergeSort tr tot l) hs ((List.mergeSort_perm l leB).trans hp)
  simp only [leB, decide_eq_true_eq] at h1 h2
  exact List.le_antisymm h1 h2
def sV (s : List UInt8) : Value := .string (tx s)
/-- slices.Sorted of maps.Keys of a disk's map. -/
theorem sorted_any {mv : Option Nat} (h : DR w D F sy dl) (hmv : w.cell? ⟨D, 0, none⟩ = some (.map mv)) (hs : SrtL (dl.map Fd.nm)) (h32 : ∀ x ∈ dl, x.nm.length ≤ 32) (hl : dl.length ≤ 1000000) :
    Calls Try.prog 53 #[.map mv] w fun e w1 => e = .returned (.func (.func 66) #[] #[.pointer (some ⟨w.heap.size, 0, none⟩)]) ∧ Calls Try.prog 52 #[.func (.func 66) #[] #[.pointer (some ⟨w.heap.size, 0, none⟩)]] w1 fun e w2 => ∃ v, e = .returned v ∧ w2.ownsRow (w.heap.size + 1) 9 1 v dl.length ((dl.map Fd.nm).map sV) ∧ Below w.heap.size w w2 := by
  obtain ⟨nv, b1, l1, -, -, x1⟩ := h.mv
  obtain rfl : mv = nv := by
    rw [cell_of_row _ _ _ _ _ _ b1] at hmv
    have : nv = mv := by simpa using hmv
    exact this.symm
  refine (callsIn_wide.1 (Try.maps_Keys_53 mv w)).mono ?_
  rintro e w1 ⟨rfl, rfl⟩
  refine ⟨rfl, ?_⟩
  rcases x1 with ⟨rfl, rfl⟩ | ⟨K, tl, es, c, rfl, hx, hp, hmp, hpm, hbk⟩
  · refine (callsIn_wide.1 (Try.slices_Sorted_keys_nil_52_53 w)).mono ?_
    rintro e w2 ⟨v, ss, rfl, rfl, ho, -, hb⟩
    refine ⟨v, rfl, ?_, (bel1 w _).trans (hb.mono (by simp))⟩
    have := own_low ho (base' := w.heap.size + 1) (by simp)
    simpa using this
  · have hne : (prs es).map Prod.fst = es.map En.nm := by unfold prs; rw [List.map_map]; rfl
    have hpn : (es.map En.nm).Perm (dl.map Fd.nm) := by
      have h1 := hpm.map Prod.fst
      rw [hne, mlT_fst, ← pl_nm] at h1
      exact h1.trans (hp.map Fd.nm)
    have h32e : ∀ e ∈ es, e.nm.length ≤ 32 := fun e he => by
      have : e.nm ∈ dl.map Fd.nm := hpn.mem_iff.1 (List.mem_map_of_mem he)
      obtain ⟨x, hx', e1⟩ := List.mem_map.1 this
      rw [← e1]
      exact h32 x hx'
    have hnd : (es.map En.nm).Nodup := hpn.nodup_iff.2 h.nd
    have hle : es.length = dl.length := by have := hpn.length_eq; simpa using this
    obtain ⟨DU, hown, k1, k2⟩ := owns_map hmp h32e hbk hnd (by omega)
    refine (callsIn_wide.1 (Try.slices_Sorted_keys_52_53 K es.length DU RU w hown (by rw [k2]; unfold maxLen; omega) (by rw [k2]; omega))).mono ?_
    rintro e w2 ⟨v, ss, rfl, hps, ho, -, hb⟩
    refine ⟨v, rfl, ?_, (bel1 w _).trans (hb.mono (by simp))⟩
    have hps2 := (hps.trans k1).trans hpn
    have hms : ss.mergeSort (fun x y => decide (x ≤ y)) = dl.map Fd.nm := sort_of hps2 hs
    rw [hms] at ho
    have hln : ss.length = dl.length := by have := hps2.length_eq; simpa using this
    rw [hln] at ho
    exact own_low ho (by simp)
end Go.Proofs.Ytmlbojihjgbdlaa.D

/- Files. -/
namespace Go.Proofs.Ytmlbojihjgbdlaa.D
open Go.RowKit
set_option linter.unusedVariables false
set_option linter.unusedSimpArgs false

variable {w w' : World} {D : Nat} {F : Nat → Prop} {sy : Int} {dl : List Fd}
theorem run_lookF {w : World} {B c : Nat} {l : List En} (h : MapAt w B l c) (s : List UInt8) :
    (Instr.lookup 68 (.map (some B)) (.string (tx s)) false).run Try.prog w = .ok (atE s l) w := by
  unfold MapAt at h
  unfold atE
  cases hf : fndE s l 0 with
  | none => simp [Instr.lookup, run_underlying under68, MapKept.run_getObj_map h, run_check, run_findKey_ents, hf, zero77, Result.andThen]
  | some p => simp [Instr.lookup, run_underlying under68, MapKept.run_getObj_map h, run_check, run_findKey_ents, hf, Result.andThen]
/-- A file by its name alone. -/
theorem DR.named (h : DR w D F sy dl) {s : List UInt8} {x : Fd} (hs : lkF s dl = some x) : ∃ K f Ff, w.cell? ⟨D, 0, none⟩ = some (.map (some K)) ∧ (Instr.lookup 68 (.map (some K)) (.string (tx s)) false).run Try.prog w = .ok (.pointer (some ⟨f, 0, none⟩)) w ∧ FL w f Ff x.b x.ws := by
  obtain ⟨K, f, Ff, h1, h2, h3, -⟩ := h.open hs
  have hc : w.cell? ⟨D, 0, none⟩ = some (.map (some K)) := by rw [cell_of_row _ _ _ _ _ _ h1]; rfl
  refine ⟨K, f, Ff, hc, ?_, h3⟩
  rcases h.ex with ⟨h4, h5, -⟩ | ⟨K', tl, h4, h5, h6⟩
  · rw [h4] at hs; simp [lkF] at hs
  · have hK : K' = K := by
      have h7 := h4.box
      rw [h1] at h7
      have : K = K' := by simpa using h7
      exact this.symm
    subst hK
    obtain ⟨es, c, h7, h8, h9⟩ := h4.km
    have e1 := run_look h7 s
    have e2 := run_lookF h7 s
    rw [h2] at e1
    rw [e2]
    have e3 : atE s es = .pointer (some ⟨f, 0, none⟩) := by
      have e4 := congrArg (fun r => match r with | Result.ok (Value.tuple xs) _ => xs.toList | _ => []) e1
      have e4 : [Value.pointer (some ⟨f, 0, none⟩), Value.bool true] = [atE s es, .bool (fndE s es 0).isSome] := e4
      exact (List.cons.inj e4).1.symm
    rw [e3]
theorem made_i64 (n : Nat) : madeCells (Value.int .i64 0).cells n = ((List.replicate n (0 : Int)).map iV).toArray := by
  apply Array.toList_inj.1
  apply List.ext_getElem?
  intro i
  by_cases h : i < n
  · simp [madeCells, h, Value.cells, Nat.mod_one, iV]
  · simp [madeCells, h]
theorem make_ints (n : Nat) (hn : n ≤ 2000000) (w : World) : (Instr.makeSlice 41 (.int .i64 (n : Int)) (.int .i64 (n : Int))).run Try.prog w = .ok (.slice (some ⟨w.heap.size, 0, none⟩) n n) (w.alloc (.cells ((List.replicate n (0 : Int)).map iV).toArray 3)) := by
  obtain ⟨i0, hi, hz0, hz1, hz2⟩ := info_parts info3
  have h := run_make (P := Try.prog) w 41 3 i0 _ Try.underlying41 hi hz0 .i64 .i64 (n : Int) (n : Int) (by omega) (Int.le_refl _) (by rw [hz2]; omega) (by omega)
  rw [h, hz1]
  simp only [Int.toNat_natCast, Nat.mul_one]
  rw [made_i64]
def lenL (dl : List Fd) : List Int := dl.map fun x => (x.b.length : Int)
def lensAt (dl : List Fd) (i : Nat) : List Int := (lenL dl).take i ++ List.replicate (dl.length - i) 0
theorem lensAt_len (dl : List Fd) {i : Nat} (h : i ≤ dl.length) : (lensAt dl i).length = dl.length := by
  unfold lensAt lenL
  simp
  omega
theorem lensAt_set {dl : List Fd} {i : Nat} {x : Fd} (h : dl[i]? = some x) : (lensAt dl i).set i (x.b.length : Int) = lensAt dl (i + 1) := by
  have hi := (List.getElem?_eq_some_iff.1 h).1
  have hl : ((lenL dl).take i).length = i := by simp [lenL]; omega
  unfold lensAt
  rw [List.set_append_right _ _ (by omega), hl, Nat.sub_self, show dl.length - i = (dl.length - (i + 1)) + 1 by omega, List.replicate_succ, List.set_cons_zero]
  have h2 : (lenL dl)[i]? = some (x.b.length : Int) := by unfold lenL; rw [List.getElem?_map, h]; rfl
  rw [(drop_at h2).2, List.append_assoc]
  rfl
/-- What Files' loop keeps. -/
structure FI (w wx : World) (a b k : Nat) (nv : Value) (dl : List Fd) (i : Nat) : Prop where
  nb : wx.heap[a]? = some (.cells #[nv] 89 (0, 0))
  lb : wx.heap[b]? = some (.cells #[.slice (some ⟨k, 0, none⟩) dl.length dl.length] 41 (0, 0))
  row : wx.heap[k]? = some (.cells ((lensAt dl i).map iV).toArray 3 (0, 0))
  nr : wx.ownsRow w.heap.size 9 1 nv dl.length ((dl.map Fd.nm).map sV)
  be : Below w.heap.size w wx
  lo : w.heap.size ≤ a ∧ w.heap.size ≤ b ∧ w.heap.size ≤ k
theorem FI.set {wx : World} {a b k : Nat} {nv : Value} {i : Nat} {x : Fd} (h : FI w wx a b k nv dl i) (hx : dl[i]? = some x) (j : Nat) : FI w ((wx.setCell ⟨k, i, none⟩ (iV (x.b.length : Int))).drewN j) a b k nv dl (i + 1) := by
  have hak : a ≠ k := ne_tag h.nb h.row (by decide)
  have hbk : b ≠ k := ne_tag h.lb h.row (by decide)
  refine ⟨(Below.heap_setCell _ _ _ _ hak).trans h.nb, (Below.heap_setCell _ _ _ _ hbk).trans h.lb, ?_, ?_, ?_, h.lo⟩
  · have := row_set (i := i) (iV (x.b.length : Int)) h.row
    show ((wx.setCell ⟨k, i, none⟩ (iV (x.b.length : Int))).heap)[k]? = _
    rw [this, ← lensAt_set hx]
    congr 2
    apply Array.toList_inj.1
    simp [List.map_set]
  · refine own_at h.nr fun q hq => ?_
    obtain ⟨cur, hc⟩ := own_tag h.nr hq
    exact Below.heap_setCell _ _ _ _ (ne_tag hc h.row (by decide))
  · have := h.lo
    exact (h.be.setCell (show w.heap.size ≤ k by omega) _).trans ⟨rfl, rfl, rfl, Nat.le_refl _, fun _ _ => rfl⟩
end Go.Proofs.Ytmlbojihjgbdlaa.D

/- Files, walked. -/
namespace Go.Proofs.Ytmlbojihjgbdlaa.D
open Go.RowKit
set_option linter.unusedVariables false
set_option linter.unusedSimpArgs false

variable {w w' : World} {D : Nat} {F : Nat → Prop} {sy : Int} {dl : List Fd}
set_option maxRecDepth 20000 in
set_option maxHeartbeats 8000000 in
theorem files_any (h : DR w D F sy dl) (hs : SrtL (dl.map Fd.nm)) (h32 : ∀ x ∈ dl, x.nm.length ≤ 32) (hl : dl.length ≤ 1000000) (hb : ∀ x ∈ dl, x.b.length ≤ 2000000) :
    Calls Try.prog 28 #[.pointer (some ⟨D, 0, none⟩)] w fun e w' => ∃ a b, e = .returned (.func (.func 54) #[] #[.pointer (some ⟨a, 0, none⟩), .pointer (some ⟨b, 0, none⟩)]) ∧ ∃ k nv, FI w w' a b k nv dl dl.length := by
  obtain ⟨mv, b1, -⟩ := h.box
  have c0 : w.cell? ⟨D, 0, none⟩ = some (.map mv) := by rw [cell_of_row _ _ _ _ _ _ b1]; rfl
  have HDL : Hid (D < w.heap.size) := (Array.getElem?_eq_some_iff.1 b1).1
  have HH : Hid (DR w D F sy dl ∧ ∀ x ∈ dl, x.b.length ≤ 2000000) := ⟨h, hb⟩
  have HS : Hid (Calls Try.prog 53 #[.map mv] w fun e w1 => e = .returned (.func (.func 66) #[] #[.pointer (some ⟨w.heap.size, 0, none⟩)]) ∧ Calls Try.prog 52 #[.func (.func 66) #[] #[.pointer (some ⟨w.heap.size, 0, none⟩)]] w1 fun e w2 => ∃ v, e = .returned v ∧ w2.ownsRow (w.heap.size + 1) 9 1 v dl.length ((dl.map Fd.nm).map sV) ∧ Below w.heap.size w w2) := sorted_any h c0 hs h32 hl
  obtain ⟨n, hn⟩ : ∃ n, dl.length = n := ⟨_, rfl⟩
  have HN : Hid (dl.length = n) := hn
  rw [hn] at HS hl ⊢
  clear h b1 hs h32 hb hn
  go_enter Try.func28, Try.ntmps28
  go_upto_region 4 with (first | (go_at_call 53; refine HS.out.mono ?_; rintro e w1 ⟨rfl, hs2⟩; (have HS2 : Hid (Calls Try.prog 52 #[.func (.func 66) #[] #[.pointer (some ⟨w.heap.size, 0, none⟩)]] w1 fun e w2 => ∃ v, e = .returned v ∧ w2.ownsRow (w.heap.size + 1) 9 1 v n ((dl.map Fd.nm).map sV) ∧ Below w.heap.size w w2) := hs2); clear hs2) | (go_at_call 52; refine HS2.out.mono ?_; rintro e w2 ⟨v, rfl, ho2, hb2⟩; (have H2 : Hid (w2.ownsRow (w.heap.size + 1) 9 1 v n ((dl.map Fd.nm).map sV) ∧ Below w.heap.size w w2) := ⟨ho2, hb2⟩); obtain ⟨na, nc, hnv⟩ := own_slice ho2; subst hnv; clear ho2 hb2))
  obtain ⟨W3, hW3⟩ : ∃ W3, w2.alloc (.cells #[.slice na n nc] 89) = W3 := ⟨_, rfl⟩
  have hb3 : Below w2.heap.size w2 W3 := by rw [← hW3]; exact bel1 _ _
  have ha3 : W3.heap[w2.heap.size]? = some (.cells #[.slice na n nc] 89 (0, 0)) := by rw [← hW3]; exact Go.heap_alloc_new _ _
  have hmk := make_ints n (by omega) W3
  obtain ⟨W4, hW4⟩ : ∃ W4, W3.alloc (.cells ((List.replicate n (0 : Int)).map iV).toArray 3) = W4 := ⟨_, rfl⟩
  rw [hW4] at hmk
  have hb4 : Below W3.heap.size W3 W4 := by rw [← hW4]; exact bel1 _ _
  have hk4 : W4.heap[W3.heap.size]? = some (.cells ((List.replicate n (0 : Int)).map iV).toArray 3 (0, 0)) := by rw [← hW4]; exact Go.heap_alloc_new _ _
  obtain ⟨W5, hW5⟩ : ∃ W5, W4.alloc (.cells #[.slice (some ⟨W3.heap.size, 0, none⟩) n n] 41) = W5 := ⟨_, rfl⟩
  have hb5 : Below W4.heap.size W4 W5 := by rw [← hW5]; exact bel1 _ _
  have hl5 : W5.heap[W4.heap.size]? = some (.cells #[.slice (some ⟨W3.heap.size, 0, none⟩) n n] 41 (0, 0)) := by rw [← hW5]; exact Go.heap_alloc_new _ _
  have z2 := H2.out.2.size
  have z3 := hb3.size
  have z4 := hb4.size
  have hal := (Array.getElem?_eq_some_iff.1 ha3).1
  have hkl := (Array.getElem?_eq_some_iff.1 hk4).1
  have hbl := (Array.getElem?_eq_some_iff.1 hl5).1
  have HFI : Hid (FI w W5 w2.heap.size W4.heap.size W3.heap.size (.slice na n nc) dl 0) := by
    refine ⟨(hb5.block _ (by omega)).trans ((hb4.block _ hal).trans ha3), by rw [HN.out]; exact hl5, ?_, ?_, ?_, ⟨z2, by omega, by omega⟩⟩
    · rw [(hb5.block _ hkl).trans hk4]
      unfold lensAt
      rw [HN.out]
      rfl
    · rw [HN.out]
      refine own_low (own_at H2.out.1 fun q hq => ?_) (Nat.le_succ _)
      have := (H2.out.1.lt q hq).2
      rw [hb5.block q (by omega), hb4.block q (by omega), hb3.block q this]
    · exact H2.out.2.trans ((hb3.mono z2).trans ((hb4.mono (by omega)).trans (hb5.mono (by omega))))
  have c3 : W3.cell? ⟨w2.heap.size, 0, none⟩ = some (.slice na n nc) := by rw [cell_of_row _ _ _ _ _ _ ha3]; rfl
  have c5 : W5.cell? ⟨w2.heap.size, 0, none⟩ = some (.slice na n nc) := by rw [cell_of_row _ _ _ _ _ _ HFI.out.nb]; rfl
  rw [hW3]
  generalize w2.heap.size = a at *
  generalize W3.heap.size = k at *
  have hncap : (n : Int) ≤ (nc : Int) := by
    have := own_capv H2.out.1
    omega
  have hn6 : (n : Int) ≤ 1000000 := by omega
  clear hW3 hb3 ha3 hW4 hb4 hk4 hb5 hl5 z2 z3 z4 hal hkl hbl H2
  go_upto_region 5 with (fail)
  clear hmk hW5
  generalize W4.heap.size = b at *
  clear c3
  go_wp2_with fail
  clear c5 c0
  go_loopw [20, 5, 6] (fun v _ _ wr => ∃ i : Nat, i ≤ n ∧ v = .int .i64 (i : Int) ∧ Hid (FI w wr a b k (.slice na n nc) dl i)) (fun v _ _ wr => n - (intOf v).toNat)
  case atStart => exact ⟨0, by omega, rfl, HFI⟩
  case round =>
    obtain ⟨i, hi, rfl, HI⟩ := hrel
    by_cases hlt : i < n
    · have hlt' : (i : Int) < (n : Int) := by omega
      obtain ⟨x, hx⟩ : ∃ x, dl[i]? = some x := ⟨_, List.getElem?_eq_getElem (by have := HN.out; omega)⟩
      have HX : Hid (dl[i]? = some x ∧ i < n) := ⟨hx, hlt⟩
      have hDW : DR wr D F sy dl := HH.out.1.newer HI.out.be
      obtain ⟨K, f, Ff, k1, k2, ⟨dv, bv, g1, g2, g3, g4⟩⟩ := (hDW.newer (drew_below wr)).named (lkF_of hDW.nd (List.mem_of_getElem? hx))
      have k1' : wr.cell? ⟨D, 0, none⟩ = some (.map (some K)) := k1
      obtain ⟨da, dc, rfl⟩ := own_slice g2
      have cF : wr.cell? ⟨f, 0, none⟩ = some (.slice da x.b.length dc) := by rw [cell_of_row (w := wr) _ _ _ _ _ g1]; rfl
      have hxb := HH.out.2 x (List.mem_of_getElem? hx)
      have hxb' : (x.b.length : Int) ≤ 2000000 := by omega
      obtain ⟨g, cp, hv⟩ := own_form HI.out.nr (by have := HN.out; omega)
      have hna : na = some ⟨g, 0, none⟩ := (Value.slice.inj hv).1
      subst hna
      have cN : wr.cell? ⟨g, i, none⟩ = some (.string (tx x.nm)) := by
        have hnr := HI.out.nr
        rw [HN.out] at hnr
        rw [hnr.cellAt i (by omega), List.getElem?_map, List.getElem?_map, hx]
        rfl
      have cL : wr.cell? ⟨b, 0, none⟩ = some (.slice (some ⟨k, 0, none⟩) n n) := by rw [cell_of_row _ _ _ _ _ _ HI.out.lb, HN.out]; rfl
      have hlen := lensAt_len dl (i := i) (by have := HN.out; omega)
      obtain ⟨u, hu⟩ : ∃ u, wr.cell? ⟨k, i, none⟩ = some u := ⟨iV ((lensAt dl i).getD i 0), by
        rw [cell_of_row _ _ _ _ _ _ HI.out.row]
        have h2 : i < (lensAt dl i).length := by rw [hlen]; have := HN.out; omega
        simp [List.getD_eq_getElem?_getD, List.getElem?_eq_getElem h2]⟩
      have fK : wr.frozen? ⟨k, i, none⟩ = false := frozen_of_row _ _ _ _ _ HI.out.row
      have HST : Hid (∀ j, FI w ((wr.setCell ⟨k, i, none⟩ (.int .i64 (x.b.length : Int))).drewN j) a b k (.slice (some ⟨g, 0, none⟩) n nc) dl (i + 1)) := fun j => HI.out.set hx j
      clear k1 hx hDW g1 g2 g3 g4 hv hlen hlt hi hxb
      go_upto_region 8 with (fail)
      go_region
      all_goals
        go_wp2_with fail
        go_roundw
        case rel => exact ⟨i + 1, by have := HX.out.2; omega, by go_num, HST.out 1⟩
        case measure => have := HX.out.2; simp [intOf]; omega
    · obtain rfl : i = n := by omega
      have hge : ¬ ((i : Int) < (i : Int)) := by omega
      clear hlt hi
      go_wp2_with fail
      go_ret
      exact ⟨a, b, rfl, k, _, HI.out⟩
end Go.Proofs.Ytmlbojihjgbdlaa.D

/- Names in order, and right, between calls. -/
namespace Go.Proofs.Ytmlbojihjgbdlaa.D
open Go.RowKit
set_option linter.unusedVariables false
set_option linter.unusedSimpArgs false

variable {k : Nat} {sy : Int} {dl : List Fd} {s s' : List UInt8} {x : Fd} {bs : List Int}
/-- Names in order, each right. -/
structure Ord (dl : List Fd) : Prop where
  srt : SrtL (dl.map Fd.nm)
  nm : ∀ x ∈ dl, nameB x.nm = true
theorem ltB_lt (a b : List UInt8) : ltB a b = decide (a < b) := bytesLess_eq a b
theorem leB_of_lt {a b : List UInt8} (h : ltB a b = true) : leB a b = true := by
  rw [ltB_lt, decide_eq_true_eq] at h
  rw [leB, decide_eq_true_eq]
  exact List.le_of_lt h
theorem leB_of_not {a b : List UInt8} (h : ltB a b = false) : leB b a = true := by
  rw [ltB_lt, decide_eq_false_iff_not] at h
  rw [leB, decide_eq_true_eq]
  exact List.not_lt.1 h
theorem leB_tr {a b c : List UInt8} (h : leB a b = true) (h' : leB b c = true) : leB a c = true := by
  simp only [leB, decide_eq_true_eq] at *
  exact List.le_trans h h'
theorem srt_ins (x : Fd) : ∀ {dl : List Fd}, SrtL (dl.map Fd.nm) → SrtL ((insF x dl).map Fd.nm)
  | [], _ => List.pairwise_singleton _ _
  | y :: r, h => by
    rw [List.map_cons, SrtL, List.pairwise_cons] at h
    unfold insF
    split
    · rename_i c
      rw [List.map_cons, SrtL, List.pairwise_cons]
      refine ⟨fun a ha => ?_, srt_ins x h.2⟩
      obtain ⟨z, hz, rfl⟩ := List.mem_map.1 ha
      rcases insF_mem hz with hz | rfl
      · exact h.1 _ (List.mem_map_of_mem hz)
      · exact leB_of_lt c
    · rename_i c
      have hxy : leB x.nm y.nm = true := leB_of_not (by simpa using c)
      rw [List.map_cons, SrtL, List.pairwise_cons]
      refine ⟨fun a ha => ?_, ?_⟩
      · rw [List.map_cons] at ha
        rcases List.mem_cons.1 ha with rfl | ha
        · exact hxy
        · exact leB_tr hxy (h.1 a ha)
      · rw [List.map_cons, List.pairwise_cons]
        exact h
theorem set_nm {b ws : List Int} : ∀ dl : List Fd, (setF s b ws dl).map Fd.nm = dl.map Fd.nm
  | [] => rfl
  | y :: r => by
    unfold setF
    split
    · rfl
    · rw [List.map_cons, List.map_cons, set_nm r]
theorem out_sub : ∀ dl : List Fd, ((outF s dl).map Fd.nm).Sublist (dl.map Fd.nm)
  | [] => .refl _
  | y :: r => by
    unfold outF
    split
    · rw [List.map_cons]; exact List.sublist_cons_self _ _
    · rw [List.map_cons, List.map_cons]; exact (out_sub r).cons_cons _
theorem Ord.of_nm {d : List Fd} (h : Ord dl) (e : d.map Fd.nm = dl.map Fd.nm) : Ord d := by
  refine ⟨by rw [e]; exact h.srt, fun y hy => ?_⟩
  have : y.nm ∈ dl.map Fd.nm := by rw [← e]; exact List.mem_map_of_mem hy
  obtain ⟨z, hz, hzn⟩ := List.mem_map.1 this
  rw [← hzn]
  exact h.nm z hz
theorem Ord.out (h : Ord dl) : Ord (outF s dl) := ⟨h.srt.sublist (out_sub dl), fun y hy => h.nm y (outF_mem hy)⟩
theorem Ord.ins (h : Ord dl) (hx : nameB x.nm = true) : Ord (insF x dl) := ⟨srt_ins x h.srt, fun y hy => (insF_mem hy).elim (h.nm y) fun e => by rw [e]; exact hx⟩
theorem Ord.ap (h : Ord dl) : Ord (apD s bs dl) := by
  unfold apD
  split
  · exact h
  · rename_i hn
    have hn' : nameB s = true := by cases hb : nameB s with | true => rfl | false => exact absurd hb hn
    split
    · split
      · exact h.of_nm (set_nm dl)
      · exact h
    · split
      · exact h
      · exact (Ord.ins (x := ⟨s, [], []⟩) h hn').of_nm (set_nm _)
theorem Ord.syn (h : Ord dl) : Ord (syD s dl) := by
  unfold syD
  split
  · exact h
  · exact h.of_nm (set_nm dl)
theorem Ord.cu {n : Int} (h : Ord dl) : Ord (cuD s n dl) := by
  unfold cuD
  split
  · exact h
  · split
    · exact h
    · exact h.of_nm (set_nm dl)
theorem Ord.mv (h : Ord dl) : Ord (mvD s s' dl) := by
  unfold mvD
  split
  · exact h
  · split
    · exact h
    · rename_i hn
      have hn' : nameB s' = true := by cases hb : nameB s' with | true => rfl | false => exact absurd hb hn
      unfold renF
      split
      · exact h
      · exact h.out.out.ins hn'
theorem Ord.rm (h : Ord dl) : Ord (rmD s dl) := h.out
theorem Ord.cr {ks : List Kn} (h : Ord dl) : Ord (crA dl ks) := by
  unfold crA
  split
  · exact h.of_nm (by unfold crD; rw [List.map_map]; rfl)
  · exact h
theorem ord_nil : Ord [] := ⟨List.Pairwise.nil, (fun x hx => nomatch hx)⟩
theorem name_len (h : nameB s = true) : s.length ≤ 32 := by
  unfold nameB at h
  simp only [Bool.and_eq_true, decide_eq_true_eq] at h
  exact h.1.2
/-- How much is pending at most. -/
theorem Inv.tot : ∀ {dl : List Fd}, (∀ x ∈ dl, x.ws.length ≤ k) → totW dl ≤ k * dl.length
  | [], _ => Nat.le_refl _
  | y :: r, h => by
    have h1 := h y (List.mem_cons_self ..)
    have h2 := Inv.tot (dl := r) fun x hx => h x (List.mem_cons_of_mem _ hx)
    have : totW (y :: r) = y.ws.length + totW r := by simp [totW]
    rw [this, List.length_cons, Nat.mul_succ]
    omega
end Go.Proofs.Ytmlbojihjgbdlaa.D

/- A disk beside the model's, between calls. -/
namespace Go.Proofs.Ytmlbojihjgbdlaa.D
open Go.RowKit
set_option linter.unusedVariables false
set_option linter.unusedSimpArgs false

variable {w0 w1 w2 : World} {D R k : Nat} {s1 s2 sy : Int} {d1 d2 dl : List Fd} {ks ks' : List (Nat × Obj)}
structure PP (w0 wr : World) (D R : Nat) (s1 : Int) (d1 : List Fd) (s2 : Int) (d2 : List Fd) (ks : List (Nat × Obj)) : Prop where
  ex : ∃ F G, DR wr D F s1 d1 ∧ MR wr R G s2 d2 ∧ (∀ q, F q → w0.heap.size ≤ q) ∧ (∀ q, G q → w0.heap.size ≤ q) ∧ (∀ q, F q → ¬ G q) ∧ ∀ p ∈ ks, wr.heap[p.1]? = some p.2 ∧ ¬ F p.1 ∧ ¬ G p.1
  bel : Below w0.heap.size w0 wr
theorem belN (w : World) (o : Obj) : Below w.heap.size w (w.alloc o) := bel1 w o
theorem PP.newer (h : PP w0 w1 D R s1 d1 s2 d2 ks) (hb : Below w1.heap.size w1 w2) : PP w0 w2 D R s1 d1 s2 d2 ks := by
  obtain ⟨⟨F, G, h1, h2, h3, h4, h5, h6⟩, h7⟩ := h
  exact ⟨⟨F, G, h1.newer hb, h2.newer hb, h3, h4, h5, fun p hp => ⟨(hb.block _ (Array.getElem?_eq_some_iff.1 (h6 p hp).1).1).trans (h6 p hp).1, (h6 p hp).2⟩⟩, h7.trans (hb.mono h7.size)⟩
/-- What is new is kept. -/
theorem PP.keep (h : PP w0 w1 D R s1 d1 s2 d2 ks) (hb : Below w1.heap.size w1 w2) {q : Nat} {o : Obj} (hq : w1.heap.size ≤ q) (ho : w2.heap[q]? = some o) : PP w0 w2 D R s1 d1 s2 d2 ((q, o) :: ks) := by
  have h' := h.newer hb
  obtain ⟨⟨F, G, h1, h2, h3, h4, h5, h6⟩, h7⟩ := h
  refine ⟨⟨F, G, h1.newer hb, h2.newer hb, h3, h4, h5, fun p hp => ?_⟩, h'.bel⟩
  rcases List.mem_cons.1 hp with hp | hp
  · rw [hp]
    exact ⟨ho, fun e => by have := h1.lt _ e; dsimp only at this; omega, fun e => by have := h2.lt _ e; dsimp only at this; omega⟩
  · exact ⟨(hb.block _ (Array.getElem?_eq_some_iff.1 (h6 p hp).1).1).trans (h6 p hp).1, (h6 p hp).2⟩
theorem PP.box (h : PP w0 w1 D R s1 d1 s2 d2 ks) (o : Obj) : PP w0 (w1.alloc o) D R s1 d1 s2 d2 ((w1.heap.size, o) :: ks) := h.keep (belN w1 o) (Nat.le_refl _) (heap_alloc_new _ _)
theorem PP.at' (h : PP w0 w1 D R s1 d1 s2 d2 ks) {p : Nat × Obj} (hp : p ∈ ks) : w1.heap[p.1]? = some p.2 := by
  obtain ⟨⟨F, G, h1, h2, h3, h4, h5, h6⟩, h7⟩ := h
  exact (h6 p hp).1
theorem PP.less (h : PP w0 w1 D R s1 d1 s2 d2 ks) (hk : ∀ p ∈ ks', p ∈ ks) : PP w0 w1 D R s1 d1 s2 d2 ks' := by
  obtain ⟨⟨F, G, h1, h2, h3, h4, h5, h6⟩, h7⟩ := h
  exact ⟨⟨F, G, h1, h2, h3, h4, h5, fun p hp => h6 p (hk p hp)⟩, h7⟩
/-- A call of the disk. -/
theorem PP.prog {fn : Nat} {args : Array Value} {Q : Ending → Prop} {s1' : Int} {d1' : List Fd} (h : PP w0 w1 D R s1 d1 s2 d2 ks) (hc : ∀ F, DR w1 D F s1 d1 → (∀ q, F q → w0.heap.size ≤ q) → (∀ p ∈ ks, ¬ F p.1) → Calls Try.prog fn args w1 fun e w2 => Q e ∧ ∃ F', DR w2 D F' s1' d1' ∧ Fr F F' w1 w2) : Calls Try.prog fn args w1 fun e w2 => Q e ∧ Hid (PP w0 w2 D R s1' d1' s2 d2 ks) := by
  obtain ⟨⟨F, G, h1, h2, h3, h4, h5, h6⟩, h7⟩ := h
  refine (hc F h1 h3 fun p hp => (h6 p hp).2.1).mono ?_
  rintro e w2 ⟨hq, F', k1, k2⟩
  have hs := h7.size
  refine ⟨hq, ⟨F', G, k1, h2.at' fun q hq => k2.block q (h2.lt q hq) fun e => h5 q e hq, k2.low h3 hs, h4, fun q hq e => ?_, fun p hp => ?_⟩, h7.trans (k2.below h3 hs)⟩
  · rcases k2.grow q hq with g | g
    · exact h5 q g e
    · have := h2.lt q e; omega
  · obtain ⟨j1, j2, j3⟩ := h6 p hp
    have hl := (Array.getElem?_eq_some_iff.1 j1).1
    refine ⟨(k2.block p.1 hl j2).trans j1, fun e => ?_, j3⟩
    rcases k2.grow _ e with g | g
    · exact j2 g
    · omega
/-- A call of the model. -/
theorem PP.model {fn : Nat} {args : Array Value} {Q : Ending → Prop} {s2' : Int} {d2' : List Fd} (h : PP w0 w1 D R s1 d1 s2 d2 ks) (hc : ∀ G, MR w1 R G s2 d2 → (∀ q, G q → w0.heap.size ≤ q) → Calls Try.prog fn args w1 fun e w2 => Q e ∧ ∃ G', MR w2 R G' s2' d2' ∧ Fr G G' w1 w2) : Calls Try.prog fn args w1 fun e w2 => Q e ∧ Hid (PP w0 w2 D R s1 d1 s2' d2' ks) := by
  obtain ⟨⟨F, G, h1, h2, h3, h4, h5, h6⟩, h7⟩ := h
  refine (hc G h2 h4).mono ?_
  rintro e w2 ⟨hq, G', k1, k2⟩
  have hs := h7.size
  refine ⟨hq, ⟨F, G', h1.at' fun q hq => k2.block q (h1.lt q hq) (h5 q hq), k1, h3, k2.low h4 hs, fun q hq e => ?_, fun p hp => ?_⟩, h7.trans (k2.below h4 hs)⟩
  · rcases k2.grow q e with g | g
    · exact h5 q hq g
    · have := h1.lt q hq; omega
  · obtain ⟨j1, j2, j3⟩ := h6 p hp
    have hl := (Array.getElem?_eq_some_iff.1 j1).1
    refine ⟨(k2.block p.1 hl j3).trans j1, j2, fun e => ?_⟩
    rcases k2.grow _ e with g | g
    · exact j3 g
    · omega
/-- What came in lies outside. -/
theorem PP.srcD {sv : Value} {bs : List Int} (h : PP w0 w1 D R s1 d1 s2 d2 ks) (hb : BysP (fun b => b < w0.heap.size) w0 sv bs) {F : Nat → Prop} (hF : ∀ q, F q → w0.heap.size ≤ q) : SrcG w1 F sv bs :=
  BysP.srcG (P := fun b => b < w0.heap.size) (hb.at' fun q hq => h.bel.block q hq) fun q hq => ⟨Nat.lt_of_lt_of_le hq h.bel.size, fun e => by have := hF q e; omega⟩
theorem PP.keepsD {kv : Value} {kn : List Kn} (h : PP w0 w1 D R s1 d1 s2 d2 ks) (hb : KeepsAt (fun b => b < w0.heap.size) w0 kv kn) : KeepsAt (fun b => b < w0.heap.size) w1 kv kn := hb.at' fun q hq => h.bel.block q hq
theorem PP.outD (h : PP w0 w1 D R s1 d1 s2 d2 ks) {F : Nat → Prop} (hF : ∀ q, F q → w0.heap.size ≤ q) : ∀ q, q < w0.heap.size → q < w1.heap.size ∧ ¬ F q := fun q hq => ⟨Nat.lt_of_lt_of_le hq h.bel.size, fun e => by have := hF q e; omega⟩
/-- The same files on both sides. -/
def PS (w0 wr : World) (D R : Nat) (sy : Int) (dl : List Fd) (ks : List (Nat × Obj)) : Prop := PP w0 wr D R sy dl sy dl ks
/-- Behind a call of both. -/
def PN (w0 w2 : World) (D R : Nat) (k : Nat) (dl0 : List Fd) (ks : List (Nat × Obj)) : Prop := ∃ sy dl, PS w0 w2 D R sy dl ks ∧ Inv (k + 1) sy dl ∧ (Ord dl0 → Ord dl)
/-- A call, as a value. -/
def Cl.val (c : Cl) : Value := .agg #[.int .i64 c.kind, .string (tx c.nm), .string (tx c.nm2), .int .i64 c.n, c.bv, c.kv]
def Cl.obj (c : Cl) : Obj := .cells #[.int .i64 c.kind, .string (tx c.nm), .string (tx c.nm2), .int .i64 c.n, c.bv, c.kv] 34
structure Cl.In (w0 : World) (c : Cl) : Prop where
  fit : c.Fit
  by' : BysP (fun b => b < w0.heap.size) w0 c.bv c.b
  kp : KeepsAt (fun b => b < w0.heap.size) w0 c.kv c.ks
theorem Cl.cells {V : World} {p : Nat} {c : Cl} (h : V.heap[p]? = some c.obj) : V.cell? ⟨p, 0, none⟩ = some (.int .i64 c.kind) ∧ V.cell? ⟨p, 1, none⟩ = some (.string (tx c.nm)) ∧ V.cell? ⟨p, 2, none⟩ = some (.string (tx c.nm2)) ∧ V.cell? ⟨p, 3, none⟩ = some (.int .i64 c.n) ∧ V.cell? ⟨p, 4, none⟩ = some c.bv ∧ V.cell? ⟨p, 5, none⟩ = some c.kv := by
  unfold Cl.obj at h
  refine ⟨?_, ?_, ?_, ?_, ?_, ?_⟩ <;> (rw [cell_of_row _ _ _ _ _ _ h]; rfl)
end Go.Proofs.Ytmlbojihjgbdlaa.D

/- One call of both: Sync. -/
namespace Go.Proofs.Ytmlbojihjgbdlaa.D
open Go.RowKit
set_option linter.unusedVariables false
set_option linter.unusedSimpArgs false

variable {w0 w1 w2 : World} {D R k : Nat} {sy : Int} {dl : List Fd} {ks : List (Nat × Obj)} {c : Cl}
set_option maxRecDepth 20000 in
set_option maxHeartbeats 4000000 in
theorem PS.c_sync (h : PS w0 w1 D R sy dl ks) (i : Inv k sy dl) (hk : k ≤ 1000) (hc : c.In w0) (hkind : c.kind = 1) : Calls Try.prog 11 #[.pointer (some ⟨D, 0, none⟩), .pointer (some ⟨R, 0, none⟩), c.val] w1 fun e w2 => e = .returned (.bool true) ∧ Hid (PN w0 w2 D R k dl ks) := by
  obtain ⟨kind, s, s', n, bb, kn, bv, kv⟩ := c
  have HCI : Hid (Cl.In w0 ⟨kind, s, s', n, bb, kn, bv, kv⟩) := hc
  dsimp only at hkind
  subst hkind
  obtain ⟨ba, bc, hbv, -⟩ := hc.by'
  obtain ⟨ka, kc, hkv, -⟩ := hc.kp
  dsimp only at hbv hkv
  generalize bb.length = bn at hbv
  generalize kn.length = kkn at hkv
  obtain ⟨W, hW⟩ : ∃ W, w1.alloc (Cl.obj ⟨1, s, s', n, bb, kn, bv, kv⟩) = W := ⟨_, rfl⟩
  have hb : PS w0 W D R sy dl ((w1.heap.size, Cl.obj ⟨1, s, s', n, bb, kn, bv, kv⟩) :: ks) := by rw [← hW]; exact PP.box h _
  obtain ⟨y0, y1, y2, y3, y4, y5⟩ := Cl.cells (PP.at' hb List.mem_cons_self)
  obtain ⟨p, hp⟩ : ∃ p, w1.heap.size = p := ⟨_, rfl⟩
  rw [hp] at hb y0 y1 y2 y3 y4 y5
  obtain ⟨r, hr⟩ : ∃ r, syE s dl = r := ⟨_, rfl⟩
  have HA : Hid (Calls Try.prog 24 #[.pointer (some ⟨D, 0, none⟩), .string (tx s)] W.drew fun e w2 => e = .returned (.int .i64 r) ∧ Hid (PP w0 w2 D R (syN s dl sy) (syD s dl) sy dl ((p, Cl.obj ⟨1, s, s', n, bb, kn, bv, kv⟩) :: ks))) := by
    rw [← hr]
    exact PP.prog (PP.newer hb (drew_below W)) fun F h1 h2 _ => p_sync h1 i (by omega)
  have HC : Hid (∀ V, PP w0 V D R (syN s dl sy) (syD s dl) sy dl ((p, Cl.obj ⟨1, s, s', n, bb, kn, bv, kv⟩) :: ks) → Calls Try.prog 35 #[.pointer (some ⟨R, 0, none⟩), .string (tx s)] V fun e w2 => e = .returned (.int .i64 r) ∧ Hid (PS w0 w2 D R (syN s dl sy) (syD s dl) ((p, Cl.obj ⟨1, s, s', n, bb, kn, bv, kv⟩) :: ks))) := fun V hV => by
    rw [← hr]
    exact PP.model hV fun G h1 h2 => m_sync h1 i (by omega)
  have HOP : Hid (∀ (V : World) (s1 s2 : Int) (d1 d2 : List Fd), PP w0 V D R s1 d1 s2 d2 ((p, Cl.obj ⟨1, s, s', n, bb, kn, bv, kv⟩) :: ks) → V.cell? ⟨p, 1, none⟩ = some (.string (tx s))) := fun V s1 s2 d1 d2 hV => (Cl.cells (PP.at' hV List.mem_cons_self)).2.1
  have HI : Hid (Inv (k + 1) (syN s dl sy) (syD s dl)) := sy_inv i
  have HO : Hid (Ord dl → Ord (syD s dl)) := fun h => h.syn
  unfold Cl.obj at hW
  unfold Cl.val
  dsimp only at hW ⊢
  subst hbv hkv
  clear h hb hk i hr hc
  go_enter Try.func11, Try.ntmps11
  go_upto_region 8 with (fail)
  clear hW
  try rw [hp]
  clear hp y0
  go_region_held3 (fun w' => w'.cell? ⟨p, 1, none⟩ = some (.string (tx s))) (first | exact K9 | exact K8 | go_keep) (first | (go_at_call 24; refine HA.out.mono ?_; rintro e w8 ⟨rfl, HM8⟩; (have K8 := HOP.out w8 _ _ _ _ HM8.out); clear HA) | (go_at_call 35; refine (HC.out _ HM8.out).mono ?_; rintro e w9 ⟨rfl, HM9⟩; (have K9 := HOP.out w9 _ _ _ _ HM9.out)))
  all_goals
    go_wp2_with fail
    go_ret
    exact ⟨rfl, _, _, PP.less HM9.out fun q hq => List.mem_cons_of_mem _ hq, HI.out, HO.out⟩
end Go.Proofs.Ytmlbojihjgbdlaa.D

/- One call of both: Remove. -/
namespace Go.Proofs.Ytmlbojihjgbdlaa.D
open Go.RowKit
set_option linter.unusedVariables false
set_option linter.unusedSimpArgs false

variable {w0 w1 w2 : World} {D R k : Nat} {sy : Int} {dl : List Fd} {ks : List (Nat × Obj)} {c : Cl}
set_option maxRecDepth 20000 in
set_option maxHeartbeats 4000000 in
theorem PS.c_remove (h : PS w0 w1 D R sy dl ks) (i : Inv k sy dl) (hk : k ≤ 1000) (hc : c.In w0) (hkind : c.kind = 4) : Calls Try.prog 11 #[.pointer (some ⟨D, 0, none⟩), .pointer (some ⟨R, 0, none⟩), c.val] w1 fun e w2 => e = .returned (.bool true) ∧ Hid (PN w0 w2 D R k dl ks) := by
  obtain ⟨kind, s, s', n, bb, kn, bv, kv⟩ := c
  have HCI : Hid (Cl.In w0 ⟨kind, s, s', n, bb, kn, bv, kv⟩) := hc
  dsimp only at hkind
  subst hkind
  obtain ⟨ba, bc, hbv, -⟩ := hc.by'
  obtain ⟨ka, kc, hkv, -⟩ := hc.kp
  dsimp only at hbv hkv
  generalize bb.length = bn at hbv
  generalize kn.length = kkn at hkv
  obtain ⟨W, hW⟩ : ∃ W, w1.alloc (Cl.obj ⟨4, s, s', n, bb, kn, bv, kv⟩) = W := ⟨_, rfl⟩
  have hb : PS w0 W D R sy dl ((w1.heap.size, Cl.obj ⟨4, s, s', n, bb, kn, bv, kv⟩) :: ks) := by rw [← hW]; exact PP.box h _
  obtain ⟨y0, y1, y2, y3, y4, y5⟩ := Cl.cells (PP.at' hb List.mem_cons_self)
  obtain ⟨p, hp⟩ : ∃ p, w1.heap.size = p := ⟨_, rfl⟩
  rw [hp] at hb y0 y1 y2 y3 y4 y5
  obtain ⟨r, hr⟩ : ∃ r, rmE s dl = r := ⟨_, rfl⟩
  have HA : Hid (Calls Try.prog 26 #[.pointer (some ⟨D, 0, none⟩), .string (tx s)] W.drew fun e w2 => e = .returned (.int .i64 r) ∧ Hid (PP w0 w2 D R sy (rmD s dl) sy dl ((p, Cl.obj ⟨4, s, s', n, bb, kn, bv, kv⟩) :: ks))) := by
    rw [← hr]
    exact PP.prog (PP.newer hb (drew_below W)) fun F h1 h2 _ => p_remove h1
  have HC : Hid (∀ V, PP w0 V D R sy (rmD s dl) sy dl ((p, Cl.obj ⟨4, s, s', n, bb, kn, bv, kv⟩) :: ks) → Calls Try.prog 38 #[.pointer (some ⟨R, 0, none⟩), .string (tx s)] V fun e w2 => e = .returned (.int .i64 r) ∧ Hid (PS w0 w2 D R sy (rmD s dl) ((p, Cl.obj ⟨4, s, s', n, bb, kn, bv, kv⟩) :: ks))) := fun V hV => by
    rw [← hr]
    exact PP.model hV fun G h1 h2 => m_remove h1 i
  have HOP : Hid (∀ (V : World) (s1 s2 : Int) (d1 d2 : List Fd), PP w0 V D R s1 d1 s2 d2 ((p, Cl.obj ⟨4, s, s', n, bb, kn, bv, kv⟩) :: ks) → V.cell? ⟨p, 1, none⟩ = some (.string (tx s))) := fun V s1 s2 d1 d2 hV => (Cl.cells (PP.at' hV List.mem_cons_self)).2.1
  have HI : Hid (Inv (k + 1) sy (rmD s dl)) := rm_inv i
  have HO : Hid (Ord dl → Ord (rmD s dl)) := fun h => h.rm
  unfold Cl.obj at hW
  unfold Cl.val
  dsimp only at hW ⊢
  subst hbv hkv
  clear h hb hk i hr hc
  go_enter Try.func11, Try.ntmps11
  go_upto_region 14 with (fail)
  clear hW
  try rw [hp]
  clear hp y0
  go_region_held3 (fun w' => w'.cell? ⟨p, 1, none⟩ = some (.string (tx s))) (first | exact K9 | exact K8 | go_keep) (first | (go_at_call 26; refine HA.out.mono ?_; rintro e w8 ⟨rfl, HM8⟩; (have K8 := HOP.out w8 _ _ _ _ HM8.out); clear HA) | (go_at_call 38; refine (HC.out _ HM8.out).mono ?_; rintro e w9 ⟨rfl, HM9⟩; (have K9 := HOP.out w9 _ _ _ _ HM9.out)))
  all_goals
    go_wp2_with fail
    go_ret
    exact ⟨rfl, _, _, PP.less HM9.out fun q hq => List.mem_cons_of_mem _ hq, HI.out, HO.out⟩
end Go.Proofs.Ytmlbojihjgbdlaa.D
