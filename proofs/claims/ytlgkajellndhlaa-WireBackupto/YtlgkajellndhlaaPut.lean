/- The reference's Put. -/
import Derived.Test.YtlgkajellndhlaaWrite
namespace Go.Proofs.Ytlgkajellndhlaa
open Go.RowKit
set_option linter.unusedVariables false
set_option linter.unusedSimpArgs false

set_option maxRecDepth 20000 in
set_option maxHeartbeats 1000000 in
theorem put_any (v : Value) (bs : List Int) (m : Int) (w : World) (m0 : 0 ≤ m) (m1 : m < 18446744073709551616) (hS : Src w v bs) (hn : bs.length ≤ 40000000) :
    Calls Try.prog 25 #[v, .int .u64 m] w fun e w' => (∃ v', e = .returned v' ∧ w'.ownsRow w.heap.size 5 1 v' (bs ++ vN m.toNat).length (u8l (bs ++ vN m.toNat))) ∧ Below w.heap.size w w' := by
  have HS : Hid (Src w v bs ∧ bs.length ≤ 40000000) := ⟨hS, hn⟩
  have HM : Hid (0 ≤ m ∧ m < 18446744073709551616) := ⟨m0, m1⟩
  clear hS hn
  go_enter Try.func25, Try.ntmps25
  go_wp2_with (at_builtin; (refine wpList_append_src rfl (.tmp 6) (.tmp 7) rfl w.heap.size (.slice none 0 0) 0 [] rfl (World.ownsRow_nil _ _ _ _) v bs rfl HS.out.1 (by have := HS.out.2; omega) (Nat.le_refl _) ?_; intro v1 w1 ho1 hg1; (have HO1 : Hid (w1.ownsRow w.heap.size 5 1 v1 bs.length (u8l bs)) := (by have h := ho1; rw [Nat.zero_add, List.nil_append] at h; exact h)); (have HB1 : Hid (Below w.heap.size w w1) := (Below.refl _ w).grown hg1 (Nat.le_refl _) (by intro q hq; cases hq)); clear ho1 hg1))
  go_loopw [1, 5] (fun y x wr => ∃ (q : Int) (ys : List Int), 0 ≤ q ∧ q ≤ m ∧ y = .int .u64 q ∧ wr.ownsRow w.heap.size 5 1 x ys.length (u8l ys) ∧ ys ++ vN q.toNat = bs ++ vN m.toNat ∧ Below w.heap.size w wr) (fun y x wr => (intOf y).toNat)
  case atStart => exact ⟨m, bs, HM.out.1, Int.le_refl _, rfl, HO1.out, rfl, HB1.out⟩
  case round =>
    obtain ⟨q, ys, q0, qm, rfl, hown, hxs, hbel⟩ := hrel
    have HOW : Hid (wr.ownsRow w.heap.size 5 1 u5 ys.length (u8l ys)) := hown
    have HX : Hid (ys ++ vN q.toNat = bs ++ vN m.toNat ∧ Below w.heap.size w wr) := ⟨hxs, hbel⟩
    have hq : q < 18446744073709551616 := by omega
    have HK : Hid (ys.length ≤ 100000000) := by
      have h1 := vN_le10 m.toNat (by have := HM.out; omega)
      have h2 := HS.out.2
      have h3 := congrArg List.length hxs
      rw [List.length_append, List.length_append] at h3
      show ys.length ≤ _
      omega
    have HBW : Hid (w.heap.size ≤ wr.heap.size) := hbel.size
    clear hown hxs hbel
    by_cases hlt : q < 128
    · have e8 : q % 256 = q := by omega
      go_wp2_with (at_builtin; (refine wpList_append_one rfl (.tmp 20) (.tmp 23) rfl w.heap.size u5 ys.length (u8l ys) rfl wr HOW.out _ rfl rfl HK.out HBW.out ?_; intro g' c' w' ho' hb'))
      go_ret
      have hv := vN_lo (n := q.toNat) (by omega)
      have hx := HX.out
      rw [hv] at hx
      refine ⟨⟨_, rfl, ?_⟩, hx.2.trans (hb'.below HBW.out (ownBlock_ge HOW.out))⟩
      rw [← hx.1, ← u8l_app, List.length_append]
      simpa [show ((q.toNat : Nat) : Int) = q by omega, e8] using ho'
    · have e8 : (q % 128 + 128) % 256 = q % 128 + 128 := by omega
      go_wp2_with (at_builtin; (refine wpList_append_one rfl (.tmp 11) (.tmp 16) rfl w.heap.size u5 ys.length (u8l ys) rfl wr HOW.out _ rfl rfl HK.out HBW.out ?_; intro g' c' w' ho' hb'; (have HO2 : Hid (w'.ownsRow w.heap.size 5 1 (.slice (some ⟨g', 0, none⟩) (ys.length + 1) c') (ys.length + 1) (u8l ys ++ u8l [q % 128 + 128])) := ho'); (have HB2 : Hid (Gr u5 wr (.slice (some ⟨g', 0, none⟩) (ys.length + 1) c') w') := hb'); clear ho' hb'))
      go_roundw
      case rel =>
        have hv := vN_hi (n := q.toNat) (by omega)
        have hx := HX.out
        rw [hv] at hx
        refine ⟨q / 128, ys ++ [q % 128 + 128], by omega, by omega, rfl, ?_, ?_, hx.2.trans (HB2.out.below HBW.out (ownBlock_ge HOW.out))⟩
        · rw [← u8l_app, List.length_append]
          exact HO2.out
        · rw [← hx.1, List.append_assoc, show (q / 128).toNat = q.toNat / 128 by omega, show ((q.toNat % 128 + 128 : Nat) : Int) = q % 128 + 128 by omega]
          rfl
      case measure => simp [intOf]; omega
end Go.Proofs.Ytlgkajellndhlaa
