/- A call that starts nobody else, in the words of a row that says leaving. -/
import Derived.Conc.LeavingOf
import Derived.ClaimOpenTies
namespace Go.Proofs.Ytfndbllpnkhlhaa
open Go

theorem leaving_of_handed {a : Assume} {C : Checked} {os : Os} {f : FuncId} {r : Reach} {Pre : World → Array Value → Prop} {Post : World → Array Value → Value → World → Prop} (h : ReturnsInHanded a C os f r Pre Post) : ReturnsInLeavingWide a C os f r Pre Post := fun enter =>
  ReturnsInOpen.mono (fun m w t x => ⟨x.2.1, ⟨fun g hg => ⟨0, by
    have h := x.1.1
    unfold Machine.othersDone at h
    have h2 := List.all_eq_true.1 h g hg
    show g.status = .finished
    exact eq_of_beq h2⟩, x.1.2⟩, x.2.2⟩) (fun _ x => x) (h enter)
end Go.Proofs.Ytfndbllpnkhlhaa
