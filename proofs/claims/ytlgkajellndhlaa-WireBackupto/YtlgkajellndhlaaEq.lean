/- Fields held against each other. -/
import Derived.Test.YtlgkajellndhlaaFds
namespace Go.Proofs.Ytlgkajellndhlaa
open Go.RowKit
set_option linter.unusedVariables false
set_option linter.unusedSimpArgs false

def strB (zs : List Int) : List UInt8 := zs.map fun x => UInt8.ofNat x.toNat
theorem conv_cells (w : World) (ad : Addr) (cap : Nat) (zs : List Int) (hz : Byt zs) (hC : ∀ j u, (u8l zs)[j]? = some u → w.cell? (ad.add j) = some u) :
    (convert 25 9 (.slice (some ad) zs.length cap)).run Try.prog w = .ok (.string ⟨(strB zs).toArray⟩) w := by
  have h := run_convert_bytes_back (P := Try.prog) w 25 9 5 ad cap (strB zs) Try.underlying25 Try.underlying5 Try.underlying9 (fun j hj => by
    unfold strB at hj ⊢
    rw [List.length_map] at hj
    have hb := hz (zs.getD j 0) (by rw [List.getD_eq_getElem?_getD, List.getElem?_eq_getElem hj]; exact List.getElem_mem _)
    rw [List.getD_eq_getElem?_getD, List.getElem?_eq_getElem hj] at hb
    simp only [Option.getD_some] at hb
    refine hC j _ ?_
    unfold u8l
    rw [List.getElem?_map, List.getElem?_eq_getElem hj, List.getElem_map, UInt8.toNat_ofNat_of_lt' (by show _ < 256; omega)]
    simp only [Option.map_some, Option.some.injEq, Value.int.injEq, true_and]
    omega)
  unfold strB at h
  rw [List.length_map] at h
  exact h
/-- Bytes as a text. -/
theorem Src.conv {w : World} {sv : Value} {bs : List Int} (h : Src w sv bs) (hb : Byt bs) : (convert 25 9 sv).run Try.prog w = .ok (.string ⟨(strB bs).toArray⟩) w := by
  rcases h with ⟨rfl, rfl⟩ | ⟨ad, cap, rfl, _, hC⟩
  · exact (show (convert 25 9 (.slice none 0 0)).run Try.prog w = .ok (.string ⟨#[]⟩) w by kernel_rfl)
  · exact conv_cells w ad cap bs hb hC
theorem strB_inj {a b : List Int} (ha : Byt a) (hb : Byt b) (h : strB a = strB b) : a = b := by
  induction a generalizing b with
  | nil => cases b with
    | nil => rfl
    | cons y b => simp [strB] at h
  | cons x a ih => cases b with
    | nil => simp [strB] at h
    | cons y b =>
      simp only [strB, List.map_cons, List.cons.injEq] at h
      have hx := ha x (List.mem_cons_self ..)
      have hy := hb y (List.mem_cons_self ..)
      have h1 := congrArg UInt8.toNat h.1
      rw [UInt8.toNat_ofNat_of_lt' (by show _ < 256; omega), UInt8.toNat_ofNat_of_lt' (by show _ < 256; omega)] at h1
      rw [ih (fun c hc => ha c (List.mem_cons_of_mem _ hc)) (fun c hc => hb c (List.mem_cons_of_mem _ hc)) h.2]
      congr 1
      omega
/-- Whether two lists of bytes are the same. -/
def sameB (a b : List Int) : Bool := decide (a = b)
theorem str_eq {a b : List Int} (ha : Byt a) (hb : Byt b) : ((⟨(strB a).toArray⟩ : ByteArray).toList == (⟨(strB b).toArray⟩ : ByteArray).toList) = sameB a b := by
  unfold sameB
  rw [ByteArray.toList_eq, ByteArray.toList_eq, Bool.eq_iff_iff, beq_iff_eq, decide_eq_true_eq]
  constructor
  · intro h
    exact strB_inj ha hb (by simpa using h)
  · rintro rfl; rfl

theorem equal_any (a b : Value) (x y : List Int) (w : World) (ha : Src w a x) (hb : Src w b y) (hx : Byt x) (hy : Byt y) : Calls Try.prog 38 #[a, b] w fun e w' => e = .returned (.bool (sameB x y)) ∧ w' = w := by
  have c1 := ha.conv hx
  have c2 := hb.conv hy
  have hq := str_eq hx hy
  generalize (⟨(strB x).toArray⟩ : ByteArray) = A at *
  generalize (⟨(strB y).toArray⟩ : ByteArray) = B at *
  have HQ : Hid ((A.toList == B.toList) = sameB x y) := hq
  clear hq
  go_enter Try.func38, Try.ntmps38
  go_wp2
  go_ret
  exact ⟨by rw [← HQ.out]; rfl, rfl⟩
/-- Whether two fields are the same. -/
def oneB (f g : Fd) : Bool := f.num == g.num && f.typ == g.typ && ((f.n : Int) == (g.n : Int)) && sameB f.b g.b
theorem oneB_iff (f g : Fd) : oneB f g = true ↔ f = g := by
  obtain ⟨a, b, c, d⟩ := f
  obtain ⟨a', b', c', d'⟩ := g
  simp [oneB, sameB, and_assoc]
  intro _ _ _
  exact Int.ofNat_inj
set_option maxRecDepth 20000 in
set_option maxHeartbeats 2000000 in
theorem one_any (f g : Fd) (qa ra : Option Addr) (l c m d : Nat) (w : World) (hf : Src w (.slice qa l c) f.b) (hg : Src w (.slice ra m d) g.b) (bf : Byt f.b) (bg : Byt g.b) :
    Calls Try.prog 26 #[.agg #[.int .i64 f.num, .int .i64 f.typ, .int .u64 (f.n : Int), .slice qa l c], .agg #[.int .i64 g.num, .int .i64 g.typ, .int .u64 (g.n : Int), .slice ra m d]] w fun e w' => e = .returned (.bool (oneB f g)) ∧ Below w.heap.size w w' := by
  have HF : Hid (Src w (.slice qa l c) f.b ∧ Byt f.b) := ⟨hf, bf⟩
  have HG : Hid (Src w (.slice ra m d) g.b ∧ Byt g.b) := ⟨hg, bg⟩
  have hq := str_eq bf bg
  obtain ⟨W, hW⟩ : ∃ W, (w.alloc (.cells #[.int .i64 f.num, .int .i64 f.typ, .int .u64 (f.n : Int), .slice qa l c] 38)).alloc (.cells #[.int .i64 g.num, .int .i64 g.typ, .int .u64 (g.n : Int), .slice ra m d] 38) = W := ⟨_, rfl⟩
  have hb : Below w.heap.size w W := by rw [← hW]; exact (bel1 _ _).alloc (by simp) _
  have c1 := (hf.later hb).conv bf
  have c2 := (hg.later hb).conv bg
  rw [← hW] at c1 c2 hb
  obtain ⟨A, hA⟩ : ∃ A : ByteArray, (⟨(strB f.b).toArray⟩ : ByteArray) = A := ⟨_, rfl⟩
  obtain ⟨B, hB⟩ : ∃ B : ByteArray, (⟨(strB g.b).toArray⟩ : ByteArray) = B := ⟨_, rfl⟩
  rw [hA] at c1 hq
  rw [hB] at c2 hq
  have HQ : Hid ((A.toList == B.toList) = sameB f.b g.b) := hq
  have HB : Hid _ := hb
  have HO : Hid (oneB f g = (f.num == g.num && f.typ == g.typ && ((f.n : Int) == (g.n : Int)) && (A.toList == B.toList))) := by show _ = _; rw [hq]; rfl
  obtain ⟨r, hr⟩ : ∃ r, oneB f g = r := ⟨_, rfl⟩
  rw [hr] at HO ⊢
  clear hq hA hB hW hf hg bf bg hb hr
  generalize (f.n : Int) = fn at *
  generalize (g.n : Int) = gn at *
  generalize f.num = fa at *
  generalize g.num = ga at *
  generalize f.typ = ft at *
  generalize g.typ = gt at *
  cases e1 : (fa == ga) with
  | false =>
    go_enter Try.func26, Try.ntmps26
    go_wp2
    go_ret
    exact ⟨by rw [HO.out, e1]; rfl, HB.out⟩
  | true =>
    cases e2 : (ft == gt) with
    | false =>
      go_enter Try.func26, Try.ntmps26
      go_wp2
      go_ret
      exact ⟨by rw [HO.out, e1, e2]; rfl, HB.out⟩
    | true =>
      cases e3 : (fn == gn) with
      | false =>
        go_enter Try.func26, Try.ntmps26
        go_wp2
        go_ret
        exact ⟨by rw [HO.out, e1, e2, e3]; rfl, HB.out⟩
      | true =>
        go_enter Try.func26, Try.ntmps26
        go_wp2
        go_ret
        exact ⟨by rw [HO.out, e1, e2, e3]; rfl, HB.out⟩
end Go.Proofs.Ytlgkajellndhlaa
