/- FairTurns' law. -/
import Derived.Test.YtfndbllpnkhlhaaTf
import Derived.Deep.CutBlock
import Derived.BigQuiet
namespace Go.Proofs.Ytfndbllpnkhlhaa
open Go.RowKit
set_option linter.unusedVariables false
set_option linter.unusedSimpArgs false

theorem Sx.alloc {T base : Nat} {s : Sc} {w0 w : World} (h : Sx T base s w0 w) (o : Obj) : Sx T base s w0 (w.alloc o) := h.later (bel1 w o) (Nat.le_refl _)
theorem Kx.alloc {bad : TypeId → Bool} {a w : World} (h : Kx bad a w) (o : Obj) : Kx bad a (w.alloc o) := h.trans (Kx.of (bel1 w o) (Nat.le_refl _))
theorem Kx.drewN' {bad : TypeId → Bool} {a w : World} (h : Kx bad a w) (n : Nat) : Kx bad a (w.drewN n) := fun p o hp hn => h p o hp hn
/-- The names and the own call, as they lie. -/
structure Loc (W w : World) (ob nb : Nat) (o : OpF) : Prop where
  own : W.heap[ob]? = some (.cells #[.int .i64 o.kind, .string (tx o.nm), .int .i64 o.wt, .int .i64 o.id, .int .i64 o.cost] 44 (0, 0))
  nam : W.heap[nb]? = some (.cells #[.string (tx [97]), .string (tx [98]), .string (tx [99]), .string (tx [100])] 9 (0, 0))
theorem Loc.kept {W w W' : World} {ob nb : Nat} {o : OpF} (h : Loc W w ob nb o) (hk : Kx badQ W W') : Loc W' w ob nb o := ⟨hk.row h.own (by decide), hk.row h.nam (by decide)⟩
theorem Loc.name {W w : World} {ob nb i : Nat} {o : OpF} {nm : List UInt8} (h : Loc W w ob nb o) (hi : nmz[i]? = some nm) : W.cell? ⟨nb, i, none⟩ = some (.string (tx nm)) := by
  rw [cell_of_row _ _ _ _ _ _ h.nam]
  have hl := (List.getElem?_eq_some_iff.1 hi).1
  have : nmz.length = 4 := rfl
  match i, hi, hl with
  | 0, hi, _ => have e : [97] = nm := by simpa [nmz] using hi
                rw [← e]; rfl
  | 1, hi, _ => have e : [98] = nm := by simpa [nmz] using hi
                rw [← e]; rfl
  | 2, hi, _ => have e : [99] = nm := by simpa [nmz] using hi
                rw [← e]; rfl
  | 3, hi, _ => have e : [100] = nm := by simpa [nmz] using hi
                rw [← e]; rfl
  | n + 4, _, hl => omega
set_option maxRecDepth 100000 in
set_option maxHeartbeats 16000000 in
theorem turns_law (sa : Option Addr) (len cap : Nat) (xs : List Int) (sb : Option Addr) (lenb capb : Nat) (bs : List OpF) (o : OpF) (sl : Option Addr) (lenl capl : Nat) (ls : List OpF) (w : World) (hx : IntsAt w sa len cap xs) (hl : (len : Int) ≤ 140737488351232) (hb : OpsAt w sb lenb capb bs) (hbl : (lenb : Int) ≤ 140737488351232) (hll : OpsAt w sl lenl capl ls) (hlll : (lenl : Int) ≤ 140737488351232) :
    Calls Try.prog 5 #[.slice sa len cap, .slice sb lenb capb, .agg #[.int .i64 o.kind, .string (tx o.nm), .int .i64 o.wt, .int .i64 o.id, .int .i64 o.cost], .slice sl lenl capl] w fun e w' => e = .returned (.bool true) ∧ Below w.heap.size w w' := by
  have HX : Hid (IntsAt w sa len cap xs) := hx
  have HBE : Hid (OpsAt w sb lenb capb bs) := hb
  have HLA : Hid (OpsAt w sl lenl capl ls) := hll
  have HKN : Hid (∀ (T : Nat) (s : Sc) (W : World), Sx T w.heap.size s w W → Calls Try.prog 10 #[] W fun e w' => e = .returned (.bool true) ∧ Below w.heap.size w w') := fun T s W h => (known_any prgS W).mono fun e w' ⟨h1, h2⟩ => ⟨h1, h.bel.trans (h2.mono h.bs)⟩
  have HNEW : Hid (∀ W0 : World, w.alloc (.cells #[.int .i64 o.kind, .string (tx o.nm), .int .i64 o.wt, .int .i64 o.id, .int .i64 o.cost] 44) = W0 → Calls Try.prog 17 #[] W0 fun e w' => ∃ T, e = .returned (.pointer (some ⟨T, 0, none⟩)) ∧ ∃ W1, w'.alloc (.cells #[.string ⟨#[97]⟩, .string ⟨#[98]⟩, .string ⟨#[99]⟩, .string ⟨#[100]⟩] 9) = W1 ∧ Sx T w.heap.size (twS []) w W1 ∧ Loc W1 w w.heap.size w'.heap.size o) := fun W0 e0 => by
    refine (prgS.new W0).mono ?_
    rintro e w1 ⟨T, F, rfl, hp1, hf1, hb1⟩
    have hb0 : Below w.heap.size w W0 := by rw [← e0]; exact bel1 w _
    have ho : W0.heap[w.heap.size]? = some (.cells #[.int .i64 o.kind, .string (tx o.nm), .int .i64 o.wt, .int .i64 o.id, .int .i64 o.cost] 44 (0, 0)) := by rw [← e0]; exact heap_alloc_new _ _
    have hol := (Array.getElem?_eq_some_iff.1 ho).1
    have hs1 : Sx T w.heap.size (twS []) w w1 := ⟨⟨F, hp1, fun q hq => by have := hf1 q hq; have := hb0.size; omega⟩, by have := hb1.size; have := hb0.size; omega, hb0.trans (hb1.mono hb0.size)⟩
    refine ⟨T, rfl, _, rfl, hs1.alloc _, ?_, heap_alloc_new _ _⟩
    rw [Below.heap_alloc _ _ _ (by have := hb1.size; omega)]
    exact (hb1.block _ hol).trans ho
  clear hx hb hll
  go_enter Try.func5, Try.ntmps5
  go_upto_block 0 with (go_at_call 17; refine (HNEW.out _ rfl).mono ?_; rintro e w1 ⟨T, rfl, W1, hW1, hs1, hl1⟩; (have H1 : Hid (Sx T w.heap.size (twS []) w W1 ∧ Loc W1 w w.heap.size w1.heap.size o) := ⟨hs1, hl1⟩); clear hs1 hl1)
  generalize w1.heap.size = nb at *
  clear hW1 HNEW
  go_cut [11] from 33 to 54 (fun c11 wx => ∃ vs : List Int, (∀ v ∈ vs, 1 ≤ v ∧ v ≤ 16) ∧ vs.length ≤ 4 ∧ vs.length ≤ len ∧ (vs.length = 4 ∨ vs.length = len) ∧ (∀ (j : Nat) (v : Int), vs[j]? = some v → xs[j]? = some v) ∧ Sx T w.heap.size (twS vs) w wx ∧ Kx badQ W1 wx)
  case first =>
    go_wp2_with fail
    go_loopw [11] (fun c11 wx => ∃ vs : List Int, c11 = .int .i64 (vs.length : Int) ∧ (∀ v ∈ vs, 1 ≤ v ∧ v ≤ 16) ∧ vs.length ≤ 4 ∧ vs.length ≤ len ∧ (∀ (j : Nat) (v : Int), vs[j]? = some v → xs[j]? = some v) ∧ Sx T w.heap.size (twS vs) w wx ∧ Kx badQ W1 wx) (fun c11 wx => 4 - (intOf c11).toNat)
    case atStart => exact ⟨[], rfl, fun v hv => (nomatch hv), by simp, by simp, fun j v h => by simp at h, H1.out.1, Kx.refl _ _⟩
    case round =>
      obtain ⟨vs, rfl, hv, h4, hle, hget, hsx, hkx⟩ := hrel
      have HR : Hid ((∀ v ∈ vs, 1 ≤ v ∧ v ≤ 16) ∧ (∀ (j : Nat) (v : Int), vs[j]? = some v → xs[j]? = some v) ∧ Sx T w.heap.size (twS vs) w wr ∧ Kx badQ W1 wr) := ⟨hv, hget, hsx, hkx⟩
      obtain ⟨i, hi⟩ : ∃ i, vs.length = i := ⟨_, rfl⟩
      have HI : Hid (vs.length = i ∧ i ≤ 4 ∧ i ≤ len) := ⟨hi, by omega, by omega⟩
      rw [hi]
      by_cases c4 : i < 4
      · have c4' : (i : Int) < 4 := by omega
        by_cases cl : i < len
        · have cl' : (i : Int) < (len : Int) := by omega
          obtain ⟨v, hv'⟩ : ∃ v, xs[i]? = some v := ⟨_, List.getElem?_eq_getElem (by have := HX.out.n; omega)⟩
          obtain ⟨b, off, e, hlt, y0⟩ := (HX.out.later hsx.bel (Nat.le_refl _)).l i v hv'
          subst e
          have hcap : (len : Int) ≤ (cap : Int) := by have := HX.out.c; omega
          obtain ⟨nm, hnm⟩ : ∃ nm, nmz[i]? = some nm := ⟨_, List.getElem?_eq_getElem (show i < nmz.length from c4)⟩
          have y1 := (H1.out.2.kept hkx).name hnm
          have hset := tw_set (v := v) (show nmz[vs.length]? = some nm by rw [hi]; exact hnm)
          have HXV : Hid (xs[i]? = some v) := hv'
          by_cases hok : 1 ≤ v ∧ v ≤ 16
          · rw [if_pos hok] at hset
            have HSET : Hid (∀ V, Sx T w.heap.size (twS vs) w V → Calls Try.prog 20 #[.pointer (some ⟨T, 0, none⟩), .string (tx nm), .int .i64 v] V fun e w' => e = .returned (.int .i64 0) ∧ Sx T w.heap.size (twS (vs ++ [v])) w w' ∧ Kx badQ V w') := fun V h => by
              have := h.set (tw_ok HR.out.1) (by decide) nm v
              rw [hset] at this
              exact this
            have HOK : Hid (1 ≤ v ∧ v ≤ 16) := hok
            clear hv hget hsx hkx hset hi h4 hle c4 cl hv' hnm hlt hok
            go_wp2_with fail
            go_region_with (go_at_call 20; refine (HSET.out _ (HR.out.2.2.1.drewN 1)).mono ?_; rintro e w2 ⟨rfl, hs2, hk2⟩; (have H2 : Hid (Sx T w.heap.size (twS (vs ++ [v])) w w2 ∧ Kx badQ W1 w2) := ⟨hs2, (HR.out.2.2.2.drewN' 1).trans hk2⟩); clear hs2 hk2)
            all_goals
              go_wp2_with fail
              go_roundw
              case rel =>
                refine ⟨vs ++ [v], by rw [List.length_append, HI.out.1]; go_num, fun x hx => ?_, by rw [List.length_append, HI.out.1]; simp; omega, by rw [List.length_append, HI.out.1]; simp; omega, fun j x hj => ?_, H2.out.1, H2.out.2⟩
                · rcases List.mem_append.1 hx with hx | hx
                  · exact HR.out.1 x hx
                  · rw [List.mem_singleton.1 hx]; exact HOK.out
                · by_cases hji : j < vs.length
                  · rw [List.getElem?_append_left hji] at hj
                    exact HR.out.2.1 j x hj
                  · rw [List.getElem?_append_right (by omega)] at hj
                    have hj0 : j - vs.length = 0 := by have := (List.getElem?_eq_some_iff.1 hj).1; simp at this; omega
                    rw [hj0] at hj
                    have ex : v = x := by simpa using hj
                    have ej : j = i := by have := HI.out.1; omega
                    rw [ej, ← ex]
                    exact HXV.out
              case measure => simp [intOf]; omega
          · rw [if_neg hok] at hset
            have HSET : Hid (∀ V, Sx T w.heap.size (twS vs) w V → Calls Try.prog 20 #[.pointer (some ⟨T, 0, none⟩), .string (tx nm), .int .i64 v] V fun e w' => e = .returned (.int .i64 1) ∧ Sx T w.heap.size (twS vs) w w' ∧ Kx badQ V w') := fun V h => by
              have := h.set (tw_ok HR.out.1) (by decide) nm v
              rw [hset] at this
              exact this
            clear hv hget hsx hkx hset hi h4 hle c4 cl hv' hnm hlt hok
            go_wp2_with fail
            go_region_with (go_at_call 20; refine (HSET.out _ (HR.out.2.2.1.drewN 1)).mono ?_; rintro e w2 ⟨rfl, hs2, hk2⟩; (have H2 : Hid (Sx T w.heap.size (twS vs) w w2) := hs2); clear hs2 hk2)
            all_goals
              go_wp2_with (go_at_call 10; refine (HKN.out _ _ _ H2.out).mono ?_; rintro e w3 ⟨rfl, hb3⟩)
              go_ret
              exact ⟨rfl, hb3⟩
        · obtain rfl : i = len := by omega
          clear hv hget hsx hkx h4 hle hi c4 cl
          go_wp2_with fail
          go_meet
          exact ⟨vs, HR.out.1, by have := HI.out; omega, by have := HI.out; omega, .inr HI.out.1, HR.out.2.1, HR.out.2.2⟩
      · obtain rfl : i = 4 := by omega
        clear hv hget hsx hkx h4 hle hi c4
        rw [show ((4 : Nat) : Int) = 4 from rfl]
        go_wp2_with fail
        go_meet
        exact ⟨vs, HR.out.1, by have := HI.out; omega, by have := HI.out; omega, .inl HI.out.1, HR.out.2.1, HR.out.2.2⟩
  case rest =>
    obtain ⟨vs, hv, h4, hle, h4l, hget, hsx, hkx⟩ := hcut
    have HVS : Hid ((∀ v ∈ vs, 1 ≤ v ∧ v ≤ 16) ∧ vs.length ≤ 4 ∧ vs.length ≤ len ∧ (vs.length = 4 ∨ vs.length = len) ∧ (∀ (j : Nat) (v : Int), vs[j]? = some v → xs[j]? = some v)) := ⟨hv, h4, hle, h4l, hget⟩
    have HC : Hid (Sx T w.heap.size (twS vs) w wc ∧ Kx badQ W1 wc) := ⟨hsx, hkx⟩
    clear hv h4 hle h4l hget hsx hkx
    go_upto_block 2 with (fail)
    go_cut [12, 13, 14] from 55 to 95 (fun c12 c13 c14 wx => ∃ (C : Int) (s : Sc), c12 = .int .i64 C ∧ 0 ≤ C ∧ C ≤ 1000 ∧ Iv C s ∧ Sok 100 s ∧ nw s = nmz.zip vs ∧ Sx T w.heap.size s w wx ∧ Kx badQ W1 wx)
    case first =>
      go_wp2_with fail
      go_loopw [12, 13, 14] (fun c12 c13 c14 wx => ∃ (i : Nat) (C : Int) (s : Sc), c12 = .int .i64 C ∧ c13 = .int .i64 (i : Int) ∧ i ≤ 100 ∧ i ≤ lenb ∧ 0 ≤ C ∧ C ≤ 1000 ∧ Iv C s ∧ Sok (i : Int) s ∧ nw s = nmz.zip vs ∧ Sx T w.heap.size s w wx ∧ Kx badQ W1 wx) (fun c12 c13 c14 wx => 100 - (intOf c13).toNat)
      case atStart => exact ⟨0, 0, twS vs, rfl, rfl, by omega, by omega, by omega, by omega, tw_iv HVS.out.1, tw_ok HVS.out.1, nw_tw vs, HC.out.1, HC.out.2⟩
      case round =>
        obtain ⟨i, C, s, rfl, rfl, hi, hil, hC0, hC1, hiv, hok, hnw, hsx, hkx⟩ := hrel
        have HR : Hid (Iv C s ∧ Sok (i : Int) s ∧ nw s = nmz.zip vs ∧ Sx T w.heap.size s w wr ∧ Kx badQ W1 wr) := ⟨hiv, hok, hnw, hsx, hkx⟩
        have HI : Hid (i ≤ 100 ∧ i ≤ lenb ∧ 0 ≤ C ∧ C ≤ 1000) := ⟨hi, hil, hC0, hC1⟩
        by_cases cl : i < lenb
        · have cl' : (i : Int) < (lenb : Int) := by omega
          by_cases c1 : i < 100
          · have c1' : (i : Int) < 100 := by omega
            obtain ⟨p, hp⟩ : ∃ p, bs[i]? = some p := ⟨_, List.getElem?_eq_getElem (by have := HBE.out.n; omega)⟩
            obtain ⟨b, off, e, hlt, y0, y1, y2, y3, y4⟩ := (HBE.out.later hsx.bel (Nat.le_refl _)).l i p hp
            subst e
            have hcap : (lenb : Int) ≤ (capb : Int) := by have := HBE.out.c; omega
            obtain ⟨kind, nm, wt, id, cost⟩ := p
            dsimp only at y0 y1 y2 y3 y4
            obtain ⟨V, hV⟩ : ∃ V, wr.alloc (.cells #[.int .i64 kind, .string (tx nm), .int .i64 wt, .int .i64 id, .int .i64 cost] 44) = V := ⟨_, rfl⟩
            have hVp : V.heap[wr.heap.size]? = some (.cells #[.int .i64 kind, .string (tx nm), .int .i64 wt, .int .i64 id, .int .i64 cost] 44 (0, 0)) := by rw [← hV]; exact heap_alloc_new _ _
            have HV : Hid (Sx T w.heap.size s w V ∧ Kx badQ W1 V) := by rw [← hV]; exact ⟨hsx.alloc _, hkx.alloc _⟩
            have z0 : V.cell? ⟨wr.heap.size, 0, none⟩ = some (.int .i64 kind) := by rw [cell_of_row _ _ _ _ _ _ hVp]; rfl
            have z1 : V.cell? ⟨wr.heap.size, 1, none⟩ = some (.string (tx nm)) := by rw [cell_of_row _ _ _ _ _ _ hVp]; rfl
            have z3 : V.cell? ⟨wr.heap.size, 3, none⟩ = some (.int .i64 id) := by rw [cell_of_row _ _ _ _ _ _ hVp]; rfl
            have z4 : V.cell? ⟨wr.heap.size, 4, none⟩ = some (.int .i64 cost) := by rw [cell_of_row _ _ _ _ _ _ hVp]; rfl
            have HC4 : Hid (∀ w2, Kx badQ V w2 → w2.cell? ⟨wr.heap.size, 4, none⟩ = some (.int .i64 cost)) := fun w2 hk => by rw [cell_of_row _ _ _ _ _ _ (hk.row hVp (by decide))]; rfl
            have HPU : Hid (Calls Try.prog 21 #[.pointer (some ⟨T, 0, none⟩), .string (tx nm), .agg #[.int .i64 id, .int .i64 cost]] V fun e w' => e = .returned (.int .i64 (pushS s nm id cost).1) ∧ (Sx T w.heap.size (pushS s nm id cost).2 w w' ∧ Kx badQ W1 w') ∧ w'.cell? ⟨wr.heap.size, 4, none⟩ = some (.int .i64 cost)) := (HV.out.1.push hok (by omega) nm id cost).mono fun e w' ⟨q1, q2, q3⟩ => ⟨q1, ⟨q2, HV.out.2.trans q3⟩, HC4.out w' q3⟩
            have HST : Hid (Calls Try.prog 22 #[.pointer (some ⟨T, 0, none⟩)] V fun e w' => (∃ a1 a2 a3 a4 a5, e = .returned (.tuple #[.string (tx a1), .agg #[.int .i64 a2, .int .i64 a3], .bool a4, .bool a5])) ∧ Sx T w.heap.size (stepS s).2 w w' ∧ Kx badQ W1 w') := (HV.out.1.step hok (by omega)).mono fun e w' ⟨q1, q2, q3⟩ => ⟨⟨_, _, _, _, _, q1⟩, q2, HV.out.2.trans q3⟩
            clear hiv hok hnw hsx hkx hi hil hp hlt cl c1 hVp
            by_cases hk : 1 ≤ kind ∧ kind ≤ 3
            · obtain ⟨k1, k3⟩ := hk
              have HN : Hid (∀ C', C ≤ C' → ((pushS s nm id cost).1 = 0 → cost ≤ C') → Iv C' (pushS s nm id cost).2 ∧ Sok ((i : Int) + 1) (pushS s nm id cost).2 ∧ nw (pushS s nm id cost).2 = nmz.zip vs) := fun C' h1 h2 => ⟨pushS_iv HR.out.1 h1 h2, push_ok (by omega) HR.out.2.1 _ _ _, by rw [nw_push]; exact HR.out.2.2.1⟩
              have HCO : Hid ((pushS s nm id cost).1 = 0 → 1 ≤ cost ∧ cost ≤ 1000) := fun h => by obtain ⟨_, _, _, h2, _⟩ := push_ok0 h; exact h2
              generalize (pushS s nm id cost).2 = s2 at *
              generalize (pushS s nm id cost).1 = r2 at *
              by_cases hr : r2 = 0
              · subst hr
                obtain ⟨cc0, cc1⟩ := HCO.out rfl
                by_cases hCc : C < cost
                · go_wp2_with (go_at_call 21; refine HPU.out.mono ?_; rintro e w2 ⟨rfl, hs2, y9⟩; (have H2 : Hid (Sx T w.heap.size s2 w w2 ∧ Kx badQ W1 w2) := hs2); clear hs2)
                  go_roundw
                  case rel => exact ⟨i + 1, cost, s2, rfl, by go_num, by omega, by omega, by omega, by omega, (HN.out cost (by omega) (fun _ => Int.le_refl _)).1, by have := (HN.out cost (by omega) (fun _ => Int.le_refl _)).2.1; simpa using this, (HN.out cost (by omega) (fun _ => Int.le_refl _)).2.2, H2.out.1, H2.out.2⟩
                  case measure => simp [intOf]; omega
                · go_wp2_with (go_at_call 21; refine HPU.out.mono ?_; rintro e w2 ⟨rfl, hs2, y9⟩; (have H2 : Hid (Sx T w.heap.size s2 w w2 ∧ Kx badQ W1 w2) := hs2); clear hs2)
                  go_roundw
                  case rel => exact ⟨i + 1, C, s2, rfl, by go_num, by omega, by omega, by omega, by omega, (HN.out C (Int.le_refl _) (fun _ => by omega)).1, by have := (HN.out C (Int.le_refl _) (fun _ => by omega)).2.1; simpa using this, (HN.out C (Int.le_refl _) (fun _ => by omega)).2.2, H2.out.1, H2.out.2⟩
                  case measure => simp [intOf]; omega
              · have hrb : (r2 == 0) = false := by simpa using hr
                have HRR : Hid (¬ r2 = 0) := hr
                clear hr
                go_wp2_with (go_at_call 21; refine HPU.out.mono ?_; rintro e w2 ⟨rfl, hs2, y9⟩; (have H2 : Hid (Sx T w.heap.size s2 w w2 ∧ Kx badQ W1 w2) := hs2); clear hs2)
                go_roundw
                case rel => exact ⟨i + 1, C, s2, rfl, by go_num, by omega, by omega, by omega, by omega, (HN.out C (Int.le_refl _) (fun e => (HRR.out e).elim)).1, by have := (HN.out C (Int.le_refl _) (fun e => (HRR.out e).elim)).2.1; simpa using this, (HN.out C (Int.le_refl _) (fun e => (HRR.out e).elim)).2.2, H2.out.1, H2.out.2⟩
                case measure => simp [intOf]; omega
            · have HSN : Hid (Iv C (stepS s).2 ∧ Sok ((i : Int) + 1) (stepS s).2 ∧ nw (stepS s).2 = nmz.zip vs) := ⟨stepS_iv HR.out.1, (step_ok (by omega) HR.out.2.1).more (by omega), by rw [nw_step]; exact HR.out.2.2.1⟩
              generalize (stepS s).2 = s2 at *
              clear HPU
              by_cases hk1 : 1 ≤ kind
              · have hk3 : decide (kind ≤ 3) = false := by rw [decide_eq_false_iff_not]; omega
                clear hk
                go_wp2_with (go_at_call 22; refine HST.out.mono ?_; rintro e w2 ⟨⟨a1, a2, a3, a4, a5, rfl⟩, hs2⟩; (have H2 : Hid (Sx T w.heap.size s2 w w2 ∧ Kx badQ W1 w2) := hs2); clear hs2)
                go_roundw
                case rel => exact ⟨i + 1, C, s2, rfl, by go_num, by omega, by omega, by omega, by omega, HSN.out.1, by have := HSN.out.2.1; simpa using this, HSN.out.2.2, H2.out.1, H2.out.2⟩
                case measure => simp [intOf]; omega
              · have hk1' : decide (1 ≤ kind) = false := by rw [decide_eq_false_iff_not]; exact hk1
                clear hk hk1
                go_wp2_with (go_at_call 22; refine HST.out.mono ?_; rintro e w2 ⟨⟨a1, a2, a3, a4, a5, rfl⟩, hs2⟩; (have H2 : Hid (Sx T w.heap.size s2 w w2 ∧ Kx badQ W1 w2) := hs2); clear hs2)
                go_roundw
                case rel => exact ⟨i + 1, C, s2, rfl, by go_num, by omega, by omega, by omega, by omega, HSN.out.1, by have := HSN.out.2.1; simpa using this, HSN.out.2.2, H2.out.1, H2.out.2⟩
                case measure => simp [intOf]; omega
          · obtain rfl : i = 100 := by omega
            clear hiv hok hnw hsx hkx hi hil c1 cl
            rw [show ((100 : Nat) : Int) = 100 from rfl] at cl' HR ⊢
            go_wp2_with fail
            go_meet
            exact ⟨C, s, rfl, hC0, hC1, HR.out.1, HR.out.2.1, HR.out.2.2.1, HR.out.2.2.2⟩
        · obtain rfl : i = lenb := by omega
          clear hiv hok hnw hsx hkx hi hil cl
          go_wp2_with fail
          go_meet
          exact ⟨C, s, rfl, hC0, hC1, HR.out.1, HR.out.2.1.more (by have := HI.out; omega), HR.out.2.2.1, HR.out.2.2.2⟩
    case rest =>
      obtain ⟨C, s, rfl, hC0, hC1, hiv, hok, hnw, hsx, hkx⟩ := hcut
      have HS : Hid (Iv C s ∧ Sok 100 s ∧ nw s = nmz.zip vs) := ⟨hiv, hok, hnw⟩
      have hloc := H1.out.2.kept hkx
      have o1 : wc.cell? ⟨w.heap.size, 1, none⟩ = some (.string (tx o.nm)) := by rw [cell_of_row _ _ _ _ _ _ hloc.own]; rfl
      have HCO : Hid (∀ w2, Kx badQ W1 w2 → w2.cell? ⟨w.heap.size, 1, none⟩ = some (.string (tx o.nm)) ∧ w2.cell? ⟨w.heap.size, 4, none⟩ = some (.int .i64 o.cost)) := fun w2 hk => ⟨by rw [cell_of_row _ _ _ _ _ _ (H1.out.2.kept hk).own]; rfl, by rw [cell_of_row _ _ _ _ _ _ (H1.out.2.kept hk).own]; rfl⟩
      have HAH : Hid (Calls Try.prog 23 #[.pointer (some ⟨T, 0, none⟩), .string (tx o.nm)] wc fun e w' => e = .returned (.int .i64 (aheadS s o.nm)) ∧ Sx T w.heap.size s w w' ∧ Kx badQ W1 w') := (hsx.ahead hok (by decide) o.nm).mono fun e w' ⟨q1, q2, q3⟩ => ⟨q1, q2, hkx.trans q3⟩
      have HMB : Hid (∀ w2, Sx T w.heap.size s w w2 → Kx badQ W1 w2 → ∃ V2, w2.alloc (.cells #[.int .i64 (-77), .int .i64 o.cost] 42) = V2 ∧ V2.cell? ⟨w.heap.size, 1, none⟩ = some (.string (tx o.nm)) ∧ V2.cell? ⟨w2.heap.size, 0, none⟩ = some (.int .i64 (-77)) ∧ V2.cell? ⟨w2.heap.size, 1, none⟩ = some (.int .i64 o.cost) ∧ Calls Try.prog 21 #[.pointer (some ⟨T, 0, none⟩), .string (tx o.nm), .agg #[.int .i64 (-77), .int .i64 o.cost]] V2 fun e w' => e = .returned (.int .i64 (pushS s o.nm (-77) o.cost).1) ∧ (Sx T w.heap.size (pushS s o.nm (-77) o.cost).2 w w' ∧ Kx badQ W1 w') ∧ w'.heap[w2.heap.size]? = some (.cells #[.int .i64 (-77), .int .i64 o.cost] 42 (0, 0))) := fun w2 h2 k2 => by
        have hm : (w2.alloc (.cells #[.int .i64 (-77), .int .i64 o.cost] 42)).heap[w2.heap.size]? = some (.cells #[.int .i64 (-77), .int .i64 o.cost] 42 (0, 0)) := heap_alloc_new _ _
        refine ⟨_, rfl, (HCO.out _ (k2.alloc _)).1, by rw [cell_of_row _ _ _ _ _ _ hm]; rfl, by rw [cell_of_row _ _ _ _ _ _ hm]; rfl, ((h2.alloc _).push HS.out.2.1 (by decide) o.nm (-77) o.cost).mono fun e w' ⟨q1, q2, q3⟩ => ⟨q1, ⟨q2, (k2.alloc _).trans q3⟩, q3.row hm (by decide)⟩⟩
      obtain ⟨q, hq⟩ : ∃ q, aheadS s o.nm = q := ⟨_, rfl⟩
      have HQ : Hid (aheadS s o.nm = q) := hq
      rw [hq] at HAH
      clear hiv hok hnw hsx hkx hloc hq
      by_cases hr : (pushS s o.nm (-77) o.cost).1 = 0
      · have HR0 : Hid ((pushS s o.nm (-77) o.cost).1 = 0) := hr
        rw [hr] at HMB
        obtain ⟨s2, hs2⟩ : ∃ s2, (pushS s o.nm (-77) o.cost).2 = s2 := ⟨_, rfl⟩
        have HS2 : Hid ((pushS s o.nm (-77) o.cost).2 = s2) := hs2
        rw [hs2] at HMB
        clear hr hs2
        go_upto_region 23 with (first
          | (go_at_call 23; refine HAH.out.mono ?_; rintro e w2 ⟨rfl, hs, hk⟩; (obtain ⟨V2, hV2, m1, m2, m3, hcl⟩ := HMB.out w2 hs hk); (have m4 := (HCO.out w2 hk).2); (have HPU : Hid (Calls Try.prog 21 #[.pointer (some ⟨T, 0, none⟩), .string (tx o.nm), .agg #[.int .i64 (-77), .int .i64 o.cost]] V2 fun e w' => e = .returned (.int .i64 0) ∧ (Sx T w.heap.size s2 w w' ∧ Kx badQ W1 w') ∧ w'.heap[w2.heap.size]? = some (.cells #[.int .i64 (-77), .int .i64 o.cost] 42 (0, 0))) := hcl); clear hs hk hcl)
          | (go_at_call 21; refine HPU.out.mono ?_; rintro e w3 ⟨rfl, hs3, hm3⟩; (have H3 : Hid (Sx T w.heap.size s2 w w3 ∧ Kx badQ W1 w3) := hs3); (have HM3 : Hid (w3.heap[w2.heap.size]? = some (.cells #[.int .i64 (-77), .int .i64 o.cost] 42 (0, 0))) := hm3); clear hs3 hm3))
        clear hV2 HMB HAH HPU m1 m2 m3 m4 o1
        generalize w2.heap.size = mb at *
        have n0 : w3.cell? ⟨mb, 0, none⟩ = some (.int .i64 (-77)) := by rw [cell_of_row _ _ _ _ _ _ HM3.out]; rfl
        have n1 : w3.cell? ⟨mb, 1, none⟩ = some (.int .i64 o.cost) := by rw [cell_of_row _ _ _ _ _ _ HM3.out]; rfl
        have HCC : Hid (1 ≤ o.cost ∧ o.cost ≤ 1000) := by obtain ⟨_, _, _, h2, _⟩ := push_ok0 HR0.out; exact h2
        go_upto_if 114 with (fail)
        go_cut [12] from 96 to 116 (fun c12 wx => wx = w3 ∧ ∃ C2, c12 = .int .i64 C2 ∧ C ≤ C2 ∧ o.cost ≤ C2 ∧ C2 ≤ 1000)
        case first =>
          obtain ⟨cc0, cc1⟩ := HCC.out
          by_cases hcc : C < o.cost
          · go_wp2_with fail
            go_meet
            exact ⟨rfl, o.cost, rfl, by omega, by omega, by omega⟩
          · go_wp2_with fail
            go_meet
            exact ⟨rfl, C, rfl, by omega, by omega, by omega⟩
        case rest =>
          obtain ⟨hwc, C2, rfl, hc1, hc2, hc3⟩ := hcut
          have hwc' := hwc.symm
          clear hwc
          subst hwc'
          have HC2 : Hid (C ≤ C2 ∧ o.cost ≤ C2 ∧ C2 ≤ 1000 ∧ 0 ≤ C) := ⟨hc1, hc2, hc3, hC0⟩
          clear hc1 hc2
          have hC20 : 0 ≤ C2 := by have := HC2.out; omega
          go_upto_block 4 with (fail)
          go_cut [12, 17] from 117 to 149 (fun c12 c17 wx => wx = w3 ∧ ∃ C3, c12 = .int .i64 C3 ∧ C2 ≤ C3 ∧ C3 ≤ 1000 ∧ ∀ (j : Nat) (p : OpF), j < 100 → ls[j]? = some p → p.cost ≤ 1000 → p.cost ≤ C3)
          case first =>
            go_wp2_with fail
            go_loopw [12, 17] (fun c12 c17 wx => wx = w3 ∧ ∃ (i : Nat) (C3 : Int), c12 = .int .i64 C3 ∧ c17 = .int .i64 (i : Int) ∧ i ≤ 100 ∧ i ≤ lenl ∧ C2 ≤ C3 ∧ C3 ≤ 1000 ∧ ∀ (j : Nat) (p : OpF), j < i → ls[j]? = some p → p.cost ≤ 1000 → p.cost ≤ C3) (fun c12 c17 wx => 100 - (intOf c17).toNat)
            case atStart => exact ⟨rfl, 0, C2, rfl, rfl, by omega, by omega, Int.le_refl _, hc3, fun j p hj => (Nat.not_lt_zero _ hj).elim⟩
            case round =>
              obtain ⟨hwr, i, C3, rfl, rfl, hi, hil, h1, h2, hall⟩ := hrel
              have hwr' := hwr.symm
              clear hwr
              subst hwr'
              have HA : Hid (∀ (j : Nat) (p : OpF), j < i → ls[j]? = some p → p.cost ≤ 1000 → p.cost ≤ C3) := hall
              have HI : Hid (i ≤ 100 ∧ i ≤ lenl ∧ C2 ≤ C3 ∧ C3 ≤ 1000) := ⟨hi, hil, h1, h2⟩
              have hC3 : 0 ≤ C3 := by omega
              by_cases cl : i < lenl
              · have cl' : (i : Int) < (lenl : Int) := by omega
                by_cases c1 : i < 100
                · have c1' : (i : Int) < 100 := by omega
                  obtain ⟨p, hp⟩ : ∃ p, ls[i]? = some p := ⟨_, List.getElem?_eq_getElem (by have := HLA.out.n; omega)⟩
                  obtain ⟨b, off, e, hlt, -, -, -, -, y4⟩ := (HLA.out.later H3.out.1.bel (Nat.le_refl _)).l i p hp
                  subst e
                  have hcap : (lenl : Int) ≤ (capl : Int) := by have := HLA.out.c; omega
                  have HN : Hid (∀ C', C3 ≤ C' → (p.cost ≤ 1000 → p.cost ≤ C') → ∀ (j : Nat) (q : OpF), j < i + 1 → ls[j]? = some q → q.cost ≤ 1000 → q.cost ≤ C') := fun C' g1 g2 j q hj hq hc => by
                    rcases (show j = i ∨ j < i from by omega) with rfl | hj
                    · rw [hp] at hq
                      have := Option.some.inj hq
                      subst this
                      exact g2 hc
                    · exact Int.le_trans (HA.out j q hj hq hc) g1
                  generalize p.cost = pc at *
                  clear hall hp hlt cl c1 hi hil h1
                  by_cases hc : C3 < pc
                  · by_cases hc9 : pc ≤ 1000
                    · go_wp2_with fail
                      go_roundw
                      case rel => exact ⟨by trivial, i + 1, pc, rfl, by go_num, by omega, by omega, by have := HI.out; omega, hc9, HN.out pc (by omega) fun _ => Int.le_refl _⟩
                      case measure => simp [intOf]; omega
                    · have hc9' : decide (pc ≤ 1000) = false := by rw [decide_eq_false_iff_not]; exact hc9
                      have HC9 : Hid (¬ pc ≤ 1000) := hc9
                      clear hc9
                      go_wp2_with fail
                      go_roundw
                      case rel => exact ⟨by trivial, i + 1, C3, rfl, by go_num, by omega, by omega, by have := HI.out; omega, by have := HI.out; omega, HN.out C3 (Int.le_refl _) fun h => (HC9.out h).elim⟩
                      case measure => simp [intOf]; omega
                  · go_wp2_with fail
                    go_roundw
                    case rel => exact ⟨by trivial, i + 1, C3, rfl, by go_num, by omega, by omega, by have := HI.out; omega, by have := HI.out; omega, HN.out C3 (Int.le_refl _) fun h => by omega⟩
                    case measure => simp [intOf]; omega
                · obtain rfl : i = 100 := by omega
                  clear hall hi hil c1 cl
                  rw [show ((100 : Nat) : Int) = 100 from rfl] at cl' ⊢
                  go_wp2_with fail
                  go_meet
                  exact ⟨rfl, C3, rfl, h1, h2, HA.out⟩
              · obtain rfl : i = lenl := by omega
                clear hall hi hil cl
                go_wp2_with fail
                go_meet
                exact ⟨rfl, C3, rfl, h1, h2, fun j p hj hp => HA.out j p (by have := (List.getElem?_eq_some_iff.1 hp).1; have := HLA.out.n; omega) hp⟩
          case rest =>
            obtain ⟨hwc, C3, rfl, hc4, hc5, hcl⟩ := hcut
            have hwc' := hwc.symm
            clear hwc
            subst hwc'
            have HC3 : Hid (C2 ≤ C3 ∧ C3 ≤ 1000 ∧ ∀ (j : Nat) (p : OpF), j < 100 → ls[j]? = some p → p.cost ≤ 1000 → p.cost ≤ C3) := ⟨hc4, hc5, hcl⟩
            have hC30 : 0 ≤ C3 := by omega
            clear hc4 hcl
            obtain ⟨k, t, hlk, -, -⟩ := push_ok0 HR0.out
            obtain ⟨hkk, hnm⟩ := look_in hlk
            have hTw := HS.out.1.all t (List.mem_of_getElem? hkk)
            have hnwk : (nmz.zip vs)[k]? = some (o.nm, t.wt) := by
              rw [← HS.out.2.2]
              unfold nw
              rw [List.getElem?_map, hkk, ← hnm]
              rfl
            have HK : Hid (nmz[k]? = some o.nm ∧ vs[k]? = some t.wt ∧ lookT s.ts o.nm = some (k, t)) := by
              obtain ⟨z1, z2⟩ := List.getElem?_zip_eq_some.1 hnwk
              exact ⟨z1, z2, hlk⟩
            have hw0 : 1 ≤ t.wt := hTw.w0
            have hw1 : t.wt ≤ 16 := hTw.w1
            clear hlk hkk hnm hTw hnwk
            obtain ⟨tw, htw⟩ : ∃ tw, t.wt = tw := ⟨_, rfl⟩
            have HTW : Hid (t.wt = tw) := htw
            rw [htw] at HK hw0 hw1
            clear htw
            go_upto_block 6 with (fail)
            go_cut [18, 19] from 150 to 170 (fun c18 c19 wx => c18 = .int .i64 tw ∧ ∃ j, wx = w3.drewN j)
            case first =>
              go_wp2_with fail
              go_loopw [18, 19] (fun c18 c19 wx => ∃ (i j : Nat), c19 = .int .i64 (i : Int) ∧ i ≤ vs.length ∧ c18 = .int .i64 (if k < i then tw else 0) ∧ wx = w3.drewN j) (fun c18 c19 wx => 4 - (intOf c19).toNat)
              case atStart => exact ⟨0, 0, rfl, by omega, rfl, rfl⟩
              case round =>
                obtain ⟨i, j, rfl, hi, rfl, hwr⟩ := hrel
                have HW : Hid (wr = w3.drewN j) := hwr
                obtain ⟨hv4, hvl, hv4l, hvx⟩ := HVS.out.2
                have HI : Hid (i ≤ vs.length ∧ vs.length ≤ 4 ∧ vs.length ≤ len ∧ (vs.length = 4 ∨ vs.length = len)) := ⟨hi, hv4, hvl, hv4l⟩
                by_cases hin : i < vs.length
                · have c4' : (i : Int) < 4 := by omega
                  have cl' : (i : Int) < (len : Int) := by omega
                  obtain ⟨v, hv'⟩ : ∃ v, vs[i]? = some v := ⟨_, List.getElem?_eq_getElem hin⟩
                  have hxv := hvx i v hv'
                  obtain ⟨b, off, e, hlt, y0⟩ := (HX.out.later (H3.out.1.drewN j).bel (Nat.le_refl _)).l i v hxv
                  rw [← hwr] at y0
                  subst e
                  have hcap : (len : Int) ≤ (cap : Int) := by have := HX.out.c; omega
                  obtain ⟨nm, hnm⟩ : ∃ nm, nmz[i]? = some nm := ⟨_, List.getElem?_eq_getElem (show i < 4 by omega)⟩
                  have y1 := (H1.out.2.kept (H3.out.2.drewN' j)).name hnm
                  have y2 := (HCO.out _ (H3.out.2.drewN' j)).1
                  rw [← hwr] at y1 y2
                  by_cases hik : i = k
                  · subst hik
                    have e1 : nm = o.nm := by have := HK.out.1; rw [hnm] at this; exact Option.some.inj this
                    have e2 : v = tw := by have := HK.out.2.1; rw [hv'] at this; exact Option.some.inj this
                    subst e2
                    rw [e1] at y1
                    rw [if_neg (Nat.lt_irrefl i)]
                    clear hwr hi hv4 hvl hv4l hvx hin hv' hxv hlt hnm e1
                    go_wp2_with fail
                    go_quiet (fail)
                    go_wp2_with fail
                    go_roundw
                    case rel => exact ⟨i + 1, j + nq, by go_num, by have := HI.out; omega, by rw [if_pos (by omega)], by rw [HW.out, World.drewN_drewN]⟩
                    case measure => simp [intOf]; omega
                  · have hne : nm ≠ o.nm := fun e => by
                      have h9 := HK.out.1
                      rw [← e] at h9
                      exact hik ((List.getElem?_inj (show i < nmz.length from (show i < 4 by omega)) (by decide)).1 (hnm.trans h9.symm))
                    have hq' : ((tx nm).toList == (tx o.nm).toList) = false := by rw [tx_list, tx_list]; simpa using hne
                    obtain ⟨wv, hwv⟩ : ∃ wv, (if k < i then tw else 0) = wv := ⟨_, rfl⟩
                    have HWV : Hid ((if k < i + 1 then tw else 0) = wv) := by
                      show _ = _
                      rw [← hwv]
                      by_cases h9 : k < i
                      · rw [if_pos h9, if_pos (by omega)]
                      · rw [if_neg h9, if_neg (by omega)]
                    rw [hwv]
                    clear hwr hi hv4 hvl hv4l hvx hin hv' hxv hlt hnm hne hik hwv
                    go_wp2_with fail
                    go_quiet (fail)
                    go_wp2_with fail
                    go_roundw
                    case rel => exact ⟨i + 1, j + nq, by go_num, by have := HI.out; omega, by rw [HWV.out], by rw [HW.out, World.drewN_drewN]⟩
                    case measure => simp [intOf]; omega
                · have hik : k < i := by have := (List.getElem?_eq_some_iff.1 HK.out.2.1).1; omega
                  rw [if_pos hik]
                  have hi4 : i = 4 ∨ (i < 4 ∧ i = len) := by omega
                  clear hwr hi hv4 hvl hv4l hvx hin hik
                  rcases hi4 with e | ⟨e1, e2⟩
                  · subst e
                    rw [show ((4 : Nat) : Int) = 4 from rfl]
                    go_wp2_with fail
                    go_meet
                    exact ⟨rfl, j, HW.out⟩
                  · subst e2
                    have e1' : (i : Int) < 4 := by omega
                    clear e1
                    go_wp2_with fail
                    go_meet
                    exact ⟨rfl, j, HW.out⟩
            case rest =>
              obtain ⟨rfl, j, hwc⟩ := hcut
              have H4 : Hid (Sx T w.heap.size s2 w wc ∧ Kx badQ W1 wc ∧ wc.heap[mb]? = some (.cells #[.int .i64 (-77), .int .i64 o.cost] 42 (0, 0))) := by rw [hwc]; exact ⟨H3.out.1.drewN j, H3.out.2.drewN' j, HM3.out⟩
              clear hwc n0 n1
              have HPI : Hid (∃ st n, Mkd st o.nm n s2 ∧ Phi C3 st o.nm n s2 ≤ (q + C3) * sumW s.ts / tw + C3 * (s.ts.length : Int)) := by
                obtain ⟨k', t', st, n, z1, z2, z3⟩ := Phi_init (C := C3) (m := o.cost) (HS.out.1.more (by have := HC2.out; have := HC3.out; omega)) (by have := HC2.out; have := HC3.out; omega) HR0.out
                rw [HS2.out] at z2 z3
                rw [HK.out.2.2] at z1
                have e9 : t = t' := by simpa using (Prod.mk.inj (Option.some.inj z1)).2
                rw [HQ.out, ← e9, HTW.out] at z3
                exact ⟨st, n, z2, z3⟩
              have hiv2 : Iv C3 s2 := by
                rw [← HS2.out]
                exact pushS_iv HS.out.1 (by have := HC2.out; have := HC3.out; omega) fun _ => by have := HC2.out; have := HC3.out; omega
              have hok2 : Sok 101 s2 := by rw [← HS2.out]; exact push_ok (by decide) HS.out.2.1 _ _ _
              have hnw2 : nw s2 = nw s := by rw [← HS2.out]; exact nw_push _ _ _ _
              have hsw : sumW s2.ts = sumW s.ts := by
                rw [sumW_nw, sumW_nw]
                have : s2.ts.map (fun t => (t.nm, t.wt)) = s.ts.map fun t => (t.nm, t.wt) := hnw2
                rw [this]
              have hln : s2.ts.length = s.ts.length := by
                have h9 := congrArg List.length hnw2
                unfold nw at h9
                simpa using h9
              have HWT : Hid (Calls Try.prog 24 #[.pointer (some ⟨T, 0, none⟩)] wc fun e w' => e = .returned (.tuple #[.int .i64 (sumW s.ts), .int .i64 (s.ts.length : Int)]) ∧ Sx T w.heap.size s2 w w' ∧ Kx badQ wc w') := by
                have := H4.out.1.weights hok2 (by decide)
                rw [hsw, hln] at this
                exact this
              have HI2 : Hid (Iv C3 s2 ∧ Sok 101 s2) := ⟨hiv2, hok2⟩
              have hq0 : 0 ≤ q ∧ q ≤ 16000 := by
                rw [← HQ.out]
                unfold aheadS
                rw [HK.out.2.2]
                have hTn := HS.out.2.1.at' (look_in HK.out.2.2).1
                have h9 : ∀ x ∈ t.ws, 0 ≤ x.left ∧ x.left ≤ 1000 := fun x hx => by have h8 := hTn.all x hx; have := h8.l0; have := h8.l1; have := h8.c1; omega
                have h10 : ∀ l : List Wk, (∀ x ∈ l, 0 ≤ x.left ∧ x.left ≤ 1000) → 0 ≤ sumL l ∧ sumL l ≤ 1000 * (l.length : Int) := by
                  intro l
                  induction l with
                  | nil => intro _; simp [sumL]
                  | cons y r ih =>
                    intro hm
                    have g1 := hm y (by simp)
                    have g2 := ih fun z hz => hm z (by simp [hz])
                    simp only [sumL, List.length_cons]
                    omega
                have h11 := h10 t.ws h9
                have h12 := hTn.n
                show 0 ≤ sumL t.ws ∧ sumL t.ws ≤ 16000
                omega
              have hAL : 0 ≤ sumW s.ts ∧ sumW s.ts ≤ 256 := by
                have h10 : ∀ l : List Tn, (∀ x ∈ l, 1 ≤ x.wt ∧ x.wt ≤ 16) → 0 ≤ sumW l ∧ sumW l ≤ 16 * (l.length : Int) := by
                  intro l
                  induction l with
                  | nil => intro _; simp [sumW]
                  | cons y r ih =>
                    intro hm
                    have g1 := hm y (by simp)
                    have g2 := ih fun z hz => hm z (by simp [hz])
                    simp only [sumW, List.length_cons]
                    omega
                have h11 := h10 s.ts fun x hx => ⟨(HS.out.1.all x hx).w0, (HS.out.1.all x hx).w1⟩
                have h12 := HS.out.2.1.n
                omega
              have hNN : (s.ts.length : Int) ≤ 16 := by have h12 := HS.out.2.1.n; omega
              clear hiv2 hok2 hnw2 hsw hln
              generalize sumW s.ts = AL at *
              obtain ⟨NN, hNN'⟩ : ∃ NN : Int, (s.ts.length : Int) = NN := ⟨_, rfl⟩
              have hNN0 : 0 ≤ NN := by omega
              rw [hNN'] at HPI HWT hNN
              clear hNN'
              obtain ⟨q0, q1⟩ := hq0
              obtain ⟨a0, a1⟩ := hAL
              obtain ⟨P1, hP1⟩ : ∃ P1, (q + C3) * AL = P1 := ⟨_, rfl⟩
              have p10 : 0 ≤ P1 := by rw [← hP1]; exact Int.mul_nonneg (by omega) a0
              have p11 : P1 ≤ 4352000 := by
                rw [← hP1]
                have := Int.mul_le_mul (show q + C3 ≤ 17000 by omega) a1 a0 (by omega)
                omega
              obtain ⟨P2, hP2⟩ : ∃ P2, C3 * NN = P2 := ⟨_, rfl⟩
              have p20 : 0 ≤ P2 := by rw [← hP2]; exact Int.mul_nonneg hC30 hNN0
              have p21 : P2 ≤ 16000 := by
                rw [← hP2]
                have := Int.mul_le_mul hc5 hNN hNN0 (by omega)
                omega
              obtain ⟨D1, hD1⟩ : ∃ D1, P1 / tw = D1 := ⟨_, rfl⟩
              have hdt : Int.tdiv P1 tw = D1 := by rw [Int.tdiv_eq_ediv_of_nonneg p10]; exact hD1
              have d10 : 0 ≤ D1 := by rw [← hD1]; exact Int.ediv_nonneg p10 (by omega)
              have d11 : D1 ≤ 4352000 := by rw [← hD1]; exact Int.le_trans (Int.ediv_le_self _ p10) p11
              rw [hP1, hD1, hP2] at HPI
              have hwz : (tw == 0) = false := by simpa using (show ¬ tw = 0 by omega)
              clear hD1
              go_upto_block 8 with (go_at_call 24; refine HWT.out.mono ?_; rintro e w5 ⟨rfl, hs5, hk5⟩; (have H5 : Hid (Sx T w.heap.size s2 w w5 ∧ w5.heap[mb]? = some (.cells #[.int .i64 (-77), .int .i64 o.cost] 42 (0, 0))) := ⟨hs5, hk5.row H4.out.2.2 (by decide)⟩); clear hs5 hk5)
              clear HWT H4 hP1 hP2 hdt p10 p11 q0 q1 a0 a1 hNN hNN0 hwz hC0 hC1 hC20 hC30 hc3 hc5
              obtain ⟨B, hB⟩ : ∃ B, D1 + P2 + 1 = B := ⟨_, rfl⟩
              have HB : Hid (D1 + P2 + 1 = B) := hB
              have hB0 : 1 ≤ B := by omega
              have hB1 : B ≤ 4368001 := by omega
              rw [hB]
              clear hB d10 d11 p20 p21
              obtain ⟨st, n0, hm0, hphi0⟩ := HPI.out
              have HM0 : Hid (Mkd st o.nm n0 s2 ∧ Phi C3 st o.nm n0 s2 ≤ B - 1) := ⟨hm0, by have := HB.out; omega⟩
              clear hm0 hphi0 HPI
              go_wp2_with fail
              go_loopw [23] (fun c23 wx => ∃ (kk n : Nat) (N : Int) (z : Sc), c23 = .int .i64 (kk : Int) ∧ (kk : Int) ≤ B ∧ Iv C3 z ∧ Mkd st o.nm n z ∧ Phi C3 st o.nm n z ≤ B - 1 - (kk : Int) ∧ Sok N z ∧ 0 ≤ N ∧ N ≤ 101 + (kk : Int) ∧ N ≤ 201 ∧ Sx T w.heap.size z w wx ∧ wx.heap[mb]? = some (.cells #[.int .i64 (-77), .int .i64 o.cost] 42 (0, 0))) (fun c23 wx => B.toNat - (intOf c23).toNat)
              case atStart => exact ⟨0, n0, 101, s2, rfl, by omega, HI2.out.1, HM0.out.1, by have := HM0.out.2; omega, HI2.out.2, by omega, by omega, by omega, H5.out.1, H5.out.2⟩
              case round =>
                obtain ⟨kk, n, N, z, rfl, hkB, hiv, hmk, hphi, hok, hN0, hN1, hN2, hsx, hmb⟩ := hrel
                have hpos := Phi_pos hiv hmk
                have hlt : (kk : Int) < B - 1 := by omega
                have HR : Hid (Iv C3 z ∧ Mkd st o.nm n z ∧ Phi C3 st o.nm n z ≤ B - 1 - (kk : Int) ∧ Sok N z ∧ Sx T w.heap.size z w wr ∧ wr.heap[mb]? = some (.cells #[.int .i64 (-77), .int .i64 o.cost] 42 (0, 0))) := ⟨hiv, hmk, hphi, hok, hsx, hmb⟩
                have HNB : Hid (0 ≤ N ∧ N ≤ 101 + (kk : Int) ∧ N ≤ 201 ∧ (kk : Int) < B - 1) := ⟨hN0, hN1, hN2, hlt⟩
                have hltB : (kk : Int) < B := by omega
                have hkM : (kk : Int) ≤ 4368001 := by omega
                obtain ⟨bb, hbb⟩ : ∃ bb : Bool, decide (kk < lenl ∧ kk < 100) = bb := ⟨_, rfl⟩
                have HBB : Hid (decide (kk < lenl ∧ kk < 100) = bb) := hbb
                clear hiv hmk hphi hok hN0 hN1 hN2 hsx hmb hpos hkB hlt hbb
                go_upto_region 41 with (fail)
                go_cut [200] from 188 to 234 (fun c wx => c = .bool bb ∧ wx = wr)
                case first =>
                  by_cases d1 : kk < lenl
                  · have d1' : (kk : Int) < (lenl : Int) := by omega
                    by_cases d2 : kk < 100
                    · have d2' : (kk : Int) < 100 := by omega
                      have e : bb = true := by rw [← HBB.out]; simp [d1, d2]
                      clear d1 d2
                      go_wp2_with fail
                      go_meet
                      exact ⟨by rw [e], rfl⟩
                    · have d2' : ¬ (kk : Int) < 100 := by omega
                      have e : bb = false := by rw [← HBB.out]; simp [d2]
                      clear d1 d2
                      go_wp2_with fail
                      go_meet
                      exact ⟨by rw [e], rfl⟩
                  · have d1' : ¬ (kk : Int) < (lenl : Int) := by omega
                    have e : bb = false := by rw [← HBB.out]; simp [d1]
                    clear d1
                    go_wp2_with fail
                    go_meet
                    exact ⟨by rw [e], rfl⟩
                obtain ⟨rfl, hwc2⟩ := hcut
                have hwc3 := hwc2.symm
                clear hwc2
                subst hwc3
                go_upto_if 200 with (fail)
                go_cut [24] from 188 to 234 (fun c24 wx => ∃ (N2 : Int) (z2 : Sc), Iv C3 z2 ∧ Mkd st o.nm n z2 ∧ Phi C3 st o.nm n z2 ≤ B - 1 - (kk : Int) ∧ Sok N2 z2 ∧ 0 ≤ N2 ∧ N2 ≤ 102 + (kk : Int) ∧ N2 ≤ 201 ∧ Sx T w.heap.size z2 w wx ∧ wx.heap[mb]? = some (.cells #[.int .i64 (-77), .int .i64 o.cost] 42 (0, 0)))
                case first =>
                  cases bb with
                  | true =>
                    have hb := HBB.out
                    simp only [decide_eq_true_eq] at hb
                    obtain ⟨d1, d2⟩ := hb
                    have d1' : (kk : Int) < (lenl : Int) := by omega
                    obtain ⟨p, hp⟩ : ∃ p, ls[kk]? = some p := ⟨_, List.getElem?_eq_getElem (by have := HLA.out.n; omega)⟩
                    obtain ⟨b, off, e, hlt, y0, y1, y2, y3, y4⟩ := (HLA.out.later HR.out.2.2.2.2.1.bel (Nat.le_refl _)).l kk p hp
                    subst e
                    have hcap : (lenl : Int) ≤ (capl : Int) := by have := HLA.out.c; omega
                    have hcost : p.cost ≤ 1000 → p.cost ≤ C3 := HC3.out.2.2 kk p d2 hp
                    obtain ⟨kind, nm, wt, id, cost⟩ := p
                    dsimp only at y0 y1 y2 y3 y4 hcost
                    obtain ⟨V, hV⟩ : ∃ V, wr.alloc (.cells #[.int .i64 kind, .string (tx nm), .int .i64 wt, .int .i64 id, .int .i64 cost] 44) = V := ⟨_, rfl⟩
                    have hVp : V.heap[wr.heap.size]? = some (.cells #[.int .i64 kind, .string (tx nm), .int .i64 wt, .int .i64 id, .int .i64 cost] 44 (0, 0)) := by rw [← hV]; exact heap_alloc_new _ _
                    have HV : Hid (Sx T w.heap.size z w V ∧ V.heap[mb]? = some (.cells #[.int .i64 (-77), .int .i64 o.cost] 42 (0, 0))) := by
                      rw [← hV]
                      exact ⟨HR.out.2.2.2.2.1.alloc _, (Below.heap_alloc _ _ _ (Array.getElem?_eq_some_iff.1 HR.out.2.2.2.2.2).1).trans HR.out.2.2.2.2.2⟩
                    have z1 : V.cell? ⟨wr.heap.size, 1, none⟩ = some (.string (tx nm)) := by rw [cell_of_row _ _ _ _ _ _ hVp]; rfl
                    have z3 : V.cell? ⟨wr.heap.size, 3, none⟩ = some (.int .i64 id) := by rw [cell_of_row _ _ _ _ _ _ hVp]; rfl
                    have z4 : V.cell? ⟨wr.heap.size, 4, none⟩ = some (.int .i64 cost) := by rw [cell_of_row _ _ _ _ _ _ hVp]; rfl
                    have z5 : V.cell? ⟨mb, 0, none⟩ = some (.int .i64 (-77)) := by rw [cell_of_row _ _ _ _ _ _ HV.out.2]; rfl
                    have HPU : Hid (Calls Try.prog 21 #[.pointer (some ⟨T, 0, none⟩), .string (tx nm), .agg #[.int .i64 id, .int .i64 cost]] V fun e w' => (∃ r, e = .returned (.int .i64 r)) ∧ Sx T w.heap.size (pushS z nm id cost).2 w w' ∧ w'.heap[mb]? = some (.cells #[.int .i64 (-77), .int .i64 o.cost] 42 (0, 0))) := (HV.out.1.push HR.out.2.2.2.1 (by have := HNB.out; omega) nm id cost).mono fun e w' ⟨q1, q2, q3⟩ => ⟨⟨_, q1⟩, q2, q3.row HV.out.2 (by decide)⟩
                    have HPN : Hid (Iv C3 (pushS z nm id cost).2 ∧ Mkd st o.nm n (pushS z nm id cost).2 ∧ Phi C3 st o.nm n (pushS z nm id cost).2 ≤ B - 1 - (kk : Int) ∧ Sok (N + 1) (pushS z nm id cost).2) := by
                      have hcc : (pushS z nm id cost).1 = 0 → cost ≤ C3 := fun h => by obtain ⟨_, _, _, h2, _⟩ := push_ok0 h; exact hcost h2.2
                      obtain ⟨g1, g2⟩ := Phi_push (nm := nm) (id := id) (cost := cost) HR.out.1 HR.out.2.1 hcc
                      exact ⟨pushS_iv HR.out.1 (Int.le_refl _) hcc, g2, Int.le_trans g1 HR.out.2.2.1, push_ok HNB.out.1 HR.out.2.2.2.1 _ _ _⟩
                    have HD2 : Hid (kk < 100) := d2
                    generalize (pushS z nm id cost).2 = z2 at *
                    clear hp hlt d1 d2 hcost hVp
                    by_cases hid : id = -77
                    · subst hid
                      go_wp2_with fail
                      go_meet
                      exact ⟨N, z, HR.out.1, HR.out.2.1, HR.out.2.2.1, HR.out.2.2.2.1, HNB.out.1, by have := HNB.out; omega, by have := HNB.out; omega, HV.out.1, HV.out.2⟩
                    · have hidb : (id == -77) = false := by simpa using hid
                      go_wp2_with (go_at_call 21; refine HPU.out.mono ?_; rintro e w6 ⟨⟨r, rfl⟩, hs6, hm6⟩; (have H6 : Hid (Sx T w.heap.size z2 w w6 ∧ w6.heap[mb]? = some (.cells #[.int .i64 (-77), .int .i64 o.cost] 42 (0, 0))) := ⟨hs6, hm6⟩); clear hs6 hm6)
                      go_meet
                      exact ⟨N + 1, z2, HPN.out.1, HPN.out.2.1, HPN.out.2.2.1, HPN.out.2.2.2, by have := HNB.out; omega, by have := HNB.out; omega, by have := HNB.out; have := HD2.out; omega, H6.out.1, H6.out.2⟩
                  | false =>
                    go_wp2_with fail
                    go_meet
                    exact ⟨N, z, HR.out.1, HR.out.2.1, HR.out.2.2.1, HR.out.2.2.2.1, HNB.out.1, by have := HNB.out; omega, by have := HNB.out; omega, HR.out.2.2.2.2.1, HR.out.2.2.2.2.2⟩
                obtain ⟨N2, z2, hiv, hmk, hphi, hok, hN0, hN1, hN2, hsx, hmb⟩ := hcut
                obtain ⟨hsome, hstep⟩ := Phi_step hiv hmk
                have hkb := HNB.out.2.2.2
                have HST : Hid (Calls Try.prog 22 #[.pointer (some ⟨T, 0, none⟩)] wc fun e w' => e = .returned (.tuple #[.string (tx (stepS z2).1.nm), .agg #[.int .i64 (stepS z2).1.id, .int .i64 (stepS z2).1.cost], .bool (stepS z2).1.don, .bool true]) ∧ ∃ V6, w'.alloc (.cells #[.int .i64 (stepS z2).1.id, .int .i64 (stepS z2).1.cost] 42) = V6 ∧ V6.cell? ⟨w'.heap.size, 0, none⟩ = some (.int .i64 (stepS z2).1.id) ∧ V6.cell? ⟨mb, 0, none⟩ = some (.int .i64 (-77)) ∧ Sx T w.heap.size (stepS z2).2 w V6 ∧ V6.heap[mb]? = some (.cells #[.int .i64 (-77), .int .i64 o.cost] 42 (0, 0))) := by
                  have := hsx.step hok (by omega)
                  rw [hsome] at this
                  refine this.mono fun e w' ⟨q1, q2, q3⟩ => ⟨q1, _, rfl, ?_, ?_, q2.alloc _, ?_⟩
                  · have h9 : (w'.alloc (.cells #[.int .i64 (stepS z2).1.id, .int .i64 (stepS z2).1.cost] 42)).heap[w'.heap.size]? = some (.cells #[.int .i64 (stepS z2).1.id, .int .i64 (stepS z2).1.cost] 42 (0, 0)) := heap_alloc_new _ _
                    rw [cell_of_row _ _ _ _ _ _ h9]; rfl
                  · have h8 := q3.row hmb (by decide)
                    have h9 : (w'.alloc (.cells #[.int .i64 (stepS z2).1.id, .int .i64 (stepS z2).1.cost] 42)).heap[mb]? = some (.cells #[.int .i64 (-77), .int .i64 o.cost] 42 (0, 0)) := (Below.heap_alloc _ _ _ (Array.getElem?_eq_some_iff.1 h8).1).trans h8
                    rw [cell_of_row _ _ _ _ _ _ h9]; rfl
                  · have h8 := q3.row hmb (by decide)
                    exact (Below.heap_alloc _ _ _ (Array.getElem?_eq_some_iff.1 h8).1).trans h8
                have HE : Hid (Iv C3 (stepS z2).2 ∧ Sok N2 (stepS z2).2 ∧ (0 ≤ N2 ∧ N2 ≤ 102 + (kk : Int) ∧ N2 ≤ 201)) := ⟨stepS_iv hiv, step_ok hN0 hok, hN0, hN1, hN2⟩
                have HSTEP : Hid (((stepS z2).1.don = true ∧ (stepS z2).1.id = -77) ∨ ∃ n', Mkd st o.nm n' (stepS z2).2 ∧ Phi C3 st o.nm n' (stepS z2).2 ≤ B - 2 - (kk : Int)) := hstep.imp id fun ⟨n', g1, g2⟩ => ⟨n', g1, by omega⟩
                clear hiv hmk hphi hok hN0 hN1 hN2 hsx hmb hsome hstep HBB
                generalize (stepS z2).2 = z3 at *
                generalize (stepS z2).1.nm = A1 at *
                generalize (stepS z2).1.id = A2 at *
                generalize (stepS z2).1.cost = A3 at *
                generalize (stepS z2).1.don = A4 at *
                by_cases hd : A4 = true ∧ A2 = -77
                · obtain ⟨rfl, rfl⟩ := hd
                  go_wp2_with (first | (go_at_call 22; refine HST.out.mono ?_; rintro e w6 ⟨rfl, V6, hV6, v0, v1, hs6, hm6⟩; (have H6 : Hid (Sx T w.heap.size z3 w V6) := hs6); clear hs6 hm6) | (go_at_call 10; refine (HKN.out _ _ _ H6.out).mono ?_; rintro e w7 ⟨rfl, hb7⟩))
                  go_ret
                  exact ⟨rfl, hb7⟩
                · have HN' : Hid (∃ n', Mkd st o.nm n' z3 ∧ Phi C3 st o.nm n' z3 ≤ B - 2 - (kk : Int)) := by
                    rcases HSTEP.out with h | h
                    · exact (hd h).elim
                    · exact h
                  clear HSTEP
                  cases A4 with
                  | false =>
                    clear hd
                    go_wp2_with (go_at_call 22; refine HST.out.mono ?_; rintro e w6 ⟨rfl, V6, hV6, v0, v1, hs6, hm6⟩; (have H6 : Hid (Sx T w.heap.size z3 w V6 ∧ V6.heap[mb]? = some (.cells #[.int .i64 (-77), .int .i64 o.cost] 42 (0, 0))) := ⟨hs6, hm6⟩); clear hs6 hm6)
                    go_roundw
                    case rel =>
                      obtain ⟨n', g1, g2⟩ := HN'.out
                      exact ⟨kk + 1, n', N2, z3, by go_num, by omega, HE.out.1, g1, by omega, HE.out.2.1, HE.out.2.2.1, by have := HE.out.2.2; omega, HE.out.2.2.2.2, H6.out.1, H6.out.2⟩
                    case measure => simp [intOf]; omega
                  | true =>
                    have hid : ¬ A2 = -77 := fun e => hd ⟨rfl, e⟩
                    have hidb : (A2 == -77) = false := by simpa using hid
                    clear hd
                    go_wp2_with (go_at_call 22; refine HST.out.mono ?_; rintro e w6 ⟨rfl, V6, hV6, v0, v1, hs6, hm6⟩; (have H6 : Hid (Sx T w.heap.size z3 w V6 ∧ V6.heap[mb]? = some (.cells #[.int .i64 (-77), .int .i64 o.cost] 42 (0, 0))) := ⟨hs6, hm6⟩); clear hs6 hm6)
                    go_roundw
                    case rel =>
                      obtain ⟨n', g1, g2⟩ := HN'.out
                      exact ⟨kk + 1, n', N2, z3, by go_num, by omega, HE.out.1, g1, by omega, HE.out.2.1, HE.out.2.2.1, by have := HE.out.2.2; omega, HE.out.2.2.2.2, H6.out.1, H6.out.2⟩
                    case measure => simp [intOf]; omega
      · skip
        have hrb : ((pushS s o.nm (-77) o.cost).1 == 0) = false := by simpa using hr
        generalize (pushS s o.nm (-77) o.cost).2 = s2 at *
        generalize (pushS s o.nm (-77) o.cost).1 = r2 at *
        clear hr
        go_wp2_with (first
          | (go_at_call 23; refine HAH.out.mono ?_; rintro e w2 ⟨rfl, hs, hk⟩; (obtain ⟨V2, hV2, m1, m2, m3, hcl⟩ := HMB.out w2 hs hk); (have m4 := (HCO.out w2 hk).2); (have HPU : Hid (Calls Try.prog 21 #[.pointer (some ⟨T, 0, none⟩), .string (tx o.nm), .agg #[.int .i64 (-77), .int .i64 o.cost]] V2 fun e w' => e = .returned (.int .i64 r2) ∧ (Sx T w.heap.size s2 w w' ∧ Kx badQ W1 w') ∧ w'.heap[w2.heap.size]? = some (.cells #[.int .i64 (-77), .int .i64 o.cost] 42 (0, 0))) := hcl); clear hs hk hcl)
          | (go_at_call 21; refine HPU.out.mono ?_; rintro e w3 ⟨rfl, hs3, hm3⟩; (have H3 : Hid (Sx T w.heap.size s2 w w3) := hs3.1); clear hs3 hm3)
          | (go_at_call 10; refine (HKN.out _ _ _ H3.out).mono ?_; rintro e w4 ⟨rfl, hb4⟩))
        go_ret
        exact ⟨rfl, hb4⟩
end Go.Proofs.Ytfndbllpnkhlhaa
