/- Nodes one behind the other, as a chain: one goes, one comes. -/
import Derived.Test.YtbcdaddbcjagjaaNb
namespace Go.Proofs.Ytbcdaddbcjagjaa
open Go.RowKit
set_option linter.unusedVariables false
set_option linter.unusedSimpArgs false

def ah (a : Addr) : Addr := ⟨a.block, a.off + 3, none⟩
def bh (a : Addr) : Addr := ⟨a.block, a.off + 4, none⟩
/-- One stands right ahead of another one. -/
def Lk (w : World) (a b : Addr) : Prop := w.cell? (bh a) = some (.pointer (some b)) ∧ w.cell? (ah b) = some (.pointer (some a))
def Ch (w : World) : Addr → List Addr → Addr → Prop
  | p, [], q => Lk w p q
  | p, n :: r, q => Lk w p n ∧ Ch w n r q
theorem Ch.keep {w w' : World} : ∀ {l : List Addr} {p q : Addr}, Ch w p l q → (∀ a ∈ p :: l, w'.cell? (bh a) = w.cell? (bh a)) → (∀ a ∈ l ++ [q], w'.cell? (ah a) = w.cell? (ah a)) → Ch w' p l q
  | [], p, q, h, hb, ha => ⟨(hb p (by simp)).trans h.1, (ha q (by simp)).trans h.2⟩
  | n :: r, p, q, h, hb, ha => ⟨⟨(hb p (by simp)).trans h.1.1, (ha n (by simp)).trans h.1.2⟩, Ch.keep h.2 (fun a h' => hb a (List.mem_cons_of_mem _ h')) fun a h' => ha a (by simp at h' ⊢; exact .inr h')⟩
theorem Ch.app {w : World} : ∀ {a b : List Addr} {p n q : Addr}, Ch w p (a ++ n :: b) q ↔ Ch w p a n ∧ Ch w n b q
  | [], b, p, n, q => Iff.rfl
  | c :: a, b, p, n, q => by
    show Lk w p c ∧ Ch w c (a ++ n :: b) q ↔ (Lk w p c ∧ Ch w c a n) ∧ Ch w n b q
    rw [Ch.app (a := a), and_assoc]
/-- One goes out of the midst. -/
theorem Ch.out {w : World} {n q : Addr} {b : List Addr} : ∀ {a : List Addr} {p : Addr}, Ch w p (a ++ n :: b) q → (p :: (a ++ n :: b)).Nodup → q ∉ a ++ n :: b →
    ∃ x y, x ∈ p :: a ∧ y ∈ b ++ [q] ∧ Lk w x n ∧ Lk w n y ∧ ∀ w', Lk w' x y → (∀ c ∈ p :: (a ++ b), c ≠ x → w'.cell? (bh c) = w.cell? (bh c)) → (∀ c ∈ a ++ b ++ [q], c ≠ y → w'.cell? (ah c) = w.cell? (ah c)) → Ch w' p (a ++ b) q
  | [], p, h, hn, hq => by
    obtain ⟨h1, h2⟩ := h
    cases b with
    | nil => exact ⟨p, q, by simp, by simp, h1, h2, fun w' hl _ _ => hl⟩
    | cons y r =>
      obtain ⟨h2, h3⟩ := h2
      refine ⟨p, y, by simp, by simp, h1, h2, fun w' hl hb ha => ⟨hl, h3.keep (fun c hc => hb c (by simp at hc ⊢; exact .inr hc) ?_) fun c hc => ha c (by simp at hc ⊢; exact .inr hc) ?_⟩⟩
      · rintro rfl
        simp at hn hc
        rcases hc with rfl | hc
        · exact hn.1.2.1 rfl
        · exact hn.1.2.2 hc
      · rintro rfl
        simp at hn hc hq
        rcases hc with hc | rfl
        · exact hn.2.2.1 hc
        · exact hq.2.1 rfl
  | c :: a, p, h, hn, hq => by
    obtain ⟨h1, h2⟩ := h
    have hn' : (c :: (a ++ n :: b)).Nodup := (List.nodup_cons.1 hn).2
    have hp : p ∉ c :: (a ++ n :: b) := (List.nodup_cons.1 hn).1
    have hq' : q ∉ a ++ n :: b := fun e => hq (List.mem_cons_of_mem _ e)
    obtain ⟨x, y, hx, hy, l1, l2, k⟩ := Ch.out (a := a) (p := c) h2 hn' hq'
    refine ⟨x, y, List.mem_cons_of_mem _ hx, hy, l1, l2, fun w' hl hb ha => ⟨⟨?_, ?_⟩, k w' hl (fun d hd => hb d (List.mem_cons_of_mem _ hd)) fun d hd => ha d (by simp at hd ⊢; exact .inr hd)⟩⟩
    · refine (hb p (by simp) ?_).trans h1.1
      rintro rfl
      exact hp (by simp at hx ⊢; rcases hx with hx | hx <;> simp [hx])
    · refine (ha c (by simp) ?_).trans h1.2
      rintro rfl
      simp at hy
      rcases hy with hy | rfl
      · exact (List.nodup_cons.1 hn').1 (by simp [hy])
      · exact hq (by simp)
/-- The first one, or the end. -/
def hd (l : List Addr) (q : Addr) : Addr := match l with | [] => q | f :: _ => f
theorem Ch.first {w : World} {l : List Addr} {p q : Addr} (h : Ch w p l q) : Lk w p (hd l q) := by
  cases l with
  | nil => exact h
  | cons f r => exact h.1
/-- One comes to the first place. -/
theorem Ch.come {w w' : World} {l : List Addr} {p q n : Addr} (h : Ch w p l q) (hn : (p :: l).Nodup) (hq : q ∉ l) (h1 : Lk w' p n) (h2 : Lk w' n (hd l q)) (hb : ∀ c ∈ l, w'.cell? (bh c) = w.cell? (bh c)) (ha : ∀ c ∈ l ++ [q], c ≠ hd l q → w'.cell? (ah c) = w.cell? (ah c)) : Ch w' p (n :: l) q := by
  cases l with
  | nil => exact ⟨h1, h2⟩
  | cons f r =>
    refine ⟨h1, h2, h.2.keep hb fun c hc => ha c (by simp at hc ⊢; exact .inr hc) ?_⟩
    rintro e
    obtain rfl : c = f := e
    simp at hn hc hq
    rcases hc with hc | rfl
    · exact hn.2.1 hc
    · exact hq.1 rfl
theorem Ch.last {w : World} {l : List Addr} {p q n : Addr} (h : Ch w p (l ++ [n]) q) : w.cell? (ah q) = some (.pointer (some n)) := (Ch.app.1 h).2.2
end Go.Proofs.Ytbcdaddbcjagjaa
