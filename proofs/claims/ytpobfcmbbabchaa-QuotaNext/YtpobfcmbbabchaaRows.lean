/-
  No cell of these rows narrows 'for every input' (looked for: loops, veiled, ifaces, maps, wideKeys, modest, calm, conditions, laid).
  DERIVED. THE GIVEN ROWS OF THIS SEAT. 6 by the template 'for every input the law returns true; each argument reads behind the call as it read before'; 0 by the template 'total and deterministic' (their statements: YtpobfcmbbabchaaTotals.lean).
  GIVEN WITH THE SEED: the statements are not yours to turn. If you find one false, say at which input.
  Laid BY PROGRAM, IN A SANDBOX (cutbox-rows.mjs): the forced cells as the released guide's own fill.sh prints them over the translation 8c2b9ab52c52a133… (all of the seat's roots in one cut). By AI agents, Wed Nov 11 2026. No macro, syntax, notation, axiom, sorry.
-/
import Derived.Test.YtpobfcmbbabchaaChecked
import GoSem.Claim
import GoSem.ClaimJoined
import GoSem.ClaimMapViews
import Derived.JoinedTies
import Derived.KernelRfl
namespace Go.Proofs.Ytpobfcmbbabchaa
/- THE CELL 'sum', in the pinned program and in every row, IS THE sha256 OF THE DUMP (.gsa) THAT YtpobfcmbbabchaaProg.lean LOADS. Nothing in Lean hashes anything: it is a label: what it is worth is what the hold of that sum in a sandbox is worth. -/
noncomputable def Try.pinned : Pinned := { name := "ytpobfcmbbabchaa", sum := "8c2b9ab52c52a133369803c0b337f76c1db11b11786a1470b96fdd5cf1632dd6", checked := Try.checked }
namespace Rows
def none {H : Type} : Left H := { results := [], args := [] }

/-- 'belfrylaw19.QuotaPlays': WHATEVER THE INPUT: true; the input reads as it did. -/
def quotaPlaysSpec : ChangeSpec := { name := "quotaPlays", fn := fun _ => fun
  | [d] => { results := [.lit (.bool true)], args := [d] }
  | _ => none }
def quotaPlaysRow : OpenClaim := { program := "ytpobfcmbbabchaa", sum := "8c2b9ab52c52a133369803c0b337f76c1db11b11786a1470b96fdd5cf1632dd6", func := "belfry/belfrylaw19.QuotaPlays", spec := "quotaPlays", inPlace := ["internal/bytealg.abigen_runtime_cmpstring", "slices.overlaps[*belfry/tenants.row[belfry/quota.bucket]]"], unfollowed := true, recurses := true, named := ["math/bits.divideError", "math/bits.overflowError"], apart := false }
def QuotaPlaysSaid : Prop := quotaPlaysRow.holds Try.pinned (OpenSpec.ofChange quotaPlaysSpec)

/-- ITS FALSE NEIGHBOUR: 'it returns false'. Refute it at one input. -/
def quotaPlaysWrong : ChangeSpec := { name := "quotaPlays", fn := fun _ => fun
  | [d] => { results := [.lit (.bool false)], args := [d] }
  | _ => none }
def QuotaPlaysWrongFalsely : Prop := quotaPlaysRow.holds Try.pinned (OpenSpec.ofChange quotaPlaysWrong)

/-- 'belfrylaw19.QuotaAsks': WHATEVER THE INPUT: true; the input reads as it did. -/
def quotaAsksSpec : ChangeSpec := { name := "quotaAsks", fn := fun _ => fun
  | [d1, d2] => { results := [.lit (.bool true)], args := [d1, d2] }
  | _ => none }
def quotaAsksRow : OpenClaim := { program := "ytpobfcmbbabchaa", sum := "8c2b9ab52c52a133369803c0b337f76c1db11b11786a1470b96fdd5cf1632dd6", func := "belfry/belfrylaw19.QuotaAsks", spec := "quotaAsks", inPlace := ["internal/bytealg.abigen_runtime_cmpstring", "slices.overlaps[*belfry/tenants.row[belfry/quota.bucket]]"], unfollowed := true, recurses := true, named := ["math/bits.divideError", "math/bits.overflowError"], apart := false }
def QuotaAsksSaid : Prop := quotaAsksRow.holds Try.pinned (OpenSpec.ofChange quotaAsksSpec)

/-- ITS FALSE NEIGHBOUR: 'it returns false'. Refute it at one input. -/
def quotaAsksWrong : ChangeSpec := { name := "quotaAsks", fn := fun _ => fun
  | [d1, d2] => { results := [.lit (.bool false)], args := [d1, d2] }
  | _ => none }
def QuotaAsksWrongFalsely : Prop := quotaAsksRow.holds Try.pinned (OpenSpec.ofChange quotaAsksWrong)

/-- 'belfrylaw19.QuotaBounds': WHATEVER THE INPUT: true; the input reads as it did. -/
def quotaBoundsSpec : ChangeSpec := { name := "quotaBounds", fn := fun _ => fun
  | [d1, d2, d3] => { results := [.lit (.bool true)], args := [d1, d2, d3] }
  | _ => none }
def quotaBoundsRow : OpenClaim := { program := "ytpobfcmbbabchaa", sum := "8c2b9ab52c52a133369803c0b337f76c1db11b11786a1470b96fdd5cf1632dd6", func := "belfry/belfrylaw19.QuotaBounds", spec := "quotaBounds", inPlace := ["internal/bytealg.abigen_runtime_cmpstring", "slices.overlaps[*belfry/tenants.row[belfry/quota.bucket]]"], unfollowed := true, recurses := true, named := ["math/bits.divideError", "math/bits.overflowError"], apart := false }
def QuotaBoundsSaid : Prop := quotaBoundsRow.holds Try.pinned (OpenSpec.ofChange quotaBoundsSpec)

/-- ITS FALSE NEIGHBOUR: 'it returns false'. Refute it at one input. -/
def quotaBoundsWrong : ChangeSpec := { name := "quotaBounds", fn := fun _ => fun
  | [d1, d2, d3] => { results := [.lit (.bool false)], args := [d1, d2, d3] }
  | _ => none }
def QuotaBoundsWrongFalsely : Prop := quotaBoundsRow.holds Try.pinned (OpenSpec.ofChange quotaBoundsWrong)

/-- 'belfrylaw19.QuotaNext': WHATEVER THE INPUT: true; the input reads as it did. -/
def quotaNextSpec : ChangeSpec := { name := "quotaNext", fn := fun _ => fun
  | [d1, d2, d3, d4] => { results := [.lit (.bool true)], args := [d1, d2, d3, d4] }
  | _ => none }
def quotaNextRow : OpenClaim := { program := "ytpobfcmbbabchaa", sum := "8c2b9ab52c52a133369803c0b337f76c1db11b11786a1470b96fdd5cf1632dd6", func := "belfry/belfrylaw19.QuotaNext", spec := "quotaNext", inPlace := ["internal/bytealg.abigen_runtime_cmpstring", "slices.overlaps[*belfry/tenants.row[belfry/quota.bucket]]"], unfollowed := true, recurses := true, named := ["math/bits.divideError", "math/bits.overflowError"], apart := false }
def QuotaNextSaid : Prop := quotaNextRow.holds Try.pinned (OpenSpec.ofChange quotaNextSpec)

/-- ITS FALSE NEIGHBOUR: 'it returns false'. Refute it at one input. -/
def quotaNextWrong : ChangeSpec := { name := "quotaNext", fn := fun _ => fun
  | [d1, d2, d3, d4] => { results := [.lit (.bool false)], args := [d1, d2, d3, d4] }
  | _ => none }
def QuotaNextWrongFalsely : Prop := quotaNextRow.holds Try.pinned (OpenSpec.ofChange quotaNextWrong)

/-- 'belfrylaw19.QuotaApart': WHATEVER THE INPUT: true; the input reads as it did. -/
def quotaApartSpec : ChangeSpec := { name := "quotaApart", fn := fun _ => fun
  | [d1, d2, d3] => { results := [.lit (.bool true)], args := [d1, d2, d3] }
  | _ => none }
def quotaApartRow : OpenClaim := { program := "ytpobfcmbbabchaa", sum := "8c2b9ab52c52a133369803c0b337f76c1db11b11786a1470b96fdd5cf1632dd6", func := "belfry/belfrylaw19.QuotaApart", spec := "quotaApart", inPlace := ["internal/bytealg.abigen_runtime_cmpstring", "slices.overlaps[*belfry/tenants.row[belfry/quota.bucket]]"], unfollowed := true, recurses := true, named := ["math/bits.divideError", "math/bits.overflowError"], apart := false }
def QuotaApartSaid : Prop := quotaApartRow.holds Try.pinned (OpenSpec.ofChange quotaApartSpec)

/-- ITS FALSE NEIGHBOUR: 'it returns false'. Refute it at one input. -/
def quotaApartWrong : ChangeSpec := { name := "quotaApart", fn := fun _ => fun
  | [d1, d2, d3] => { results := [.lit (.bool false)], args := [d1, d2, d3] }
  | _ => none }
def QuotaApartWrongFalsely : Prop := quotaApartRow.holds Try.pinned (OpenSpec.ofChange quotaApartWrong)

/-- 'belfrylaw19.QuotaNil': WHATEVER THE INPUT: true; the input reads as it did. -/
def quotaNilSpec : ChangeSpec := { name := "quotaNil", fn := fun _ => fun
  | [d] => { results := [.lit (.bool true)], args := [d] }
  | _ => none }
def quotaNilRow : OpenClaim := { program := "ytpobfcmbbabchaa", sum := "8c2b9ab52c52a133369803c0b337f76c1db11b11786a1470b96fdd5cf1632dd6", func := "belfry/belfrylaw19.QuotaNil", spec := "quotaNil", inPlace := ["internal/bytealg.abigen_runtime_cmpstring", "slices.overlaps[*belfry/tenants.row[belfry/quota.bucket]]"], unfollowed := true, recurses := true, named := ["math/bits.divideError", "math/bits.overflowError"], apart := false }
def QuotaNilSaid : Prop := quotaNilRow.holds Try.pinned (OpenSpec.ofChange quotaNilSpec)

/-- ITS FALSE NEIGHBOUR: 'it returns false'. Refute it at one input. -/
def quotaNilWrong : ChangeSpec := { name := "quotaNil", fn := fun _ => fun
  | [d] => { results := [.lit (.bool false)], args := [d] }
  | _ => none }
def QuotaNilWrongFalsely : Prop := quotaNilRow.holds Try.pinned (OpenSpec.ofChange quotaNilWrong)

/- THE SECOND FORM. 'bulk': how many values and letters a reading holds, each counted each time it is reached (what is shared counts as often as it is met; a slice's spare places count too). A statement '..UptoSaid' is the law's where the arguments, and the package variables that the reading takes, are together of bulk at most 1048576: NARROWER than '..Said'. Prove '..Said' where nothing that the law and all that it calls make is longer than what came in: it says more and counts as full. Else prove '..UptoSaid'. A law counts once. -/
mutual
def uptoBulk {H : Type} : DataW H → Nat
  | .lit (.string bytes) => bytes.length + 1
  | .lit _ => 1
  | .nil => 1
  | .ptr d => uptoBulk d + 1
  | .slice elems spare => uptoBulkAll elems + uptoBulkAll spare + 1
  | .agg parts => uptoBulkAll parts + 1
  | .iface _ d => uptoBulk d + 1
  | .map entries => uptoBulkEntries entries + 1
  | .held _ => 1
def uptoBulkAll {H : Type} : List (DataW H) → Nat
  | [] => 0
  | d :: r => uptoBulk d + uptoBulkAll r
def uptoBulkEntries {H : Type} : List (Lit × DataW H) → Nat
  | [] => 0
  | x :: r => uptoBulkEntry x + uptoBulkEntries r
def uptoBulkEntry {H : Type} : Lit × DataW H → Nat
  | (.string bytes, d) => bytes.length + uptoBulk d + 1
  | (_, d) => uptoBulk d + 1
 end
def uptoSmall : (H : Type) → List (DataW H) → Bool := fun _ ds => decide (uptoBulkAll ds ≤ 1048576)
def OpenSpec.upto (s : _root_.Go.ChangeSpec) : _root_.Go.OpenSpec := { _root_.Go.OpenSpec.ofChange s with cond := some uptoSmall }

/-- 'belfrylaw19.QuotaPlays', WHERE WHAT IT READS IS OF BULK AT MOST 1048576: true; the input reads as it did. -/
def quotaPlaysUptoRow : OpenClaim := { program := "ytpobfcmbbabchaa", sum := "8c2b9ab52c52a133369803c0b337f76c1db11b11786a1470b96fdd5cf1632dd6", func := "belfry/belfrylaw19.QuotaPlays", spec := "quotaPlays", inPlace := ["internal/bytealg.abigen_runtime_cmpstring", "slices.overlaps[*belfry/tenants.row[belfry/quota.bucket]]"], unfollowed := true, recurses := true, named := ["math/bits.divideError", "math/bits.overflowError"], apart := false, narrowed := true }
def QuotaPlaysUptoSaid : Prop := quotaPlaysUptoRow.holds Try.pinned (OpenSpec.upto quotaPlaysSpec)

/-- 'belfrylaw19.QuotaAsks', WHERE WHAT IT READS IS OF BULK AT MOST 1048576: true; the input reads as it did. -/
def quotaAsksUptoRow : OpenClaim := { program := "ytpobfcmbbabchaa", sum := "8c2b9ab52c52a133369803c0b337f76c1db11b11786a1470b96fdd5cf1632dd6", func := "belfry/belfrylaw19.QuotaAsks", spec := "quotaAsks", inPlace := ["internal/bytealg.abigen_runtime_cmpstring", "slices.overlaps[*belfry/tenants.row[belfry/quota.bucket]]"], unfollowed := true, recurses := true, named := ["math/bits.divideError", "math/bits.overflowError"], apart := false, narrowed := true }
def QuotaAsksUptoSaid : Prop := quotaAsksUptoRow.holds Try.pinned (OpenSpec.upto quotaAsksSpec)

/-- 'belfrylaw19.QuotaBounds', WHERE WHAT IT READS IS OF BULK AT MOST 1048576: true; the input reads as it did. -/
def quotaBoundsUptoRow : OpenClaim := { program := "ytpobfcmbbabchaa", sum := "8c2b9ab52c52a133369803c0b337f76c1db11b11786a1470b96fdd5cf1632dd6", func := "belfry/belfrylaw19.QuotaBounds", spec := "quotaBounds", inPlace := ["internal/bytealg.abigen_runtime_cmpstring", "slices.overlaps[*belfry/tenants.row[belfry/quota.bucket]]"], unfollowed := true, recurses := true, named := ["math/bits.divideError", "math/bits.overflowError"], apart := false, narrowed := true }
def QuotaBoundsUptoSaid : Prop := quotaBoundsUptoRow.holds Try.pinned (OpenSpec.upto quotaBoundsSpec)

/-- 'belfrylaw19.QuotaNext', WHERE WHAT IT READS IS OF BULK AT MOST 1048576: true; the input reads as it did. -/
def quotaNextUptoRow : OpenClaim := { program := "ytpobfcmbbabchaa", sum := "8c2b9ab52c52a133369803c0b337f76c1db11b11786a1470b96fdd5cf1632dd6", func := "belfry/belfrylaw19.QuotaNext", spec := "quotaNext", inPlace := ["internal/bytealg.abigen_runtime_cmpstring", "slices.overlaps[*belfry/tenants.row[belfry/quota.bucket]]"], unfollowed := true, recurses := true, named := ["math/bits.divideError", "math/bits.overflowError"], apart := false, narrowed := true }
def QuotaNextUptoSaid : Prop := quotaNextUptoRow.holds Try.pinned (OpenSpec.upto quotaNextSpec)

/-- 'belfrylaw19.QuotaApart', WHERE WHAT IT READS IS OF BULK AT MOST 1048576: true; the input reads as it did. -/
def quotaApartUptoRow : OpenClaim := { program := "ytpobfcmbbabchaa", sum := "8c2b9ab52c52a133369803c0b337f76c1db11b11786a1470b96fdd5cf1632dd6", func := "belfry/belfrylaw19.QuotaApart", spec := "quotaApart", inPlace := ["internal/bytealg.abigen_runtime_cmpstring", "slices.overlaps[*belfry/tenants.row[belfry/quota.bucket]]"], unfollowed := true, recurses := true, named := ["math/bits.divideError", "math/bits.overflowError"], apart := false, narrowed := true }
def QuotaApartUptoSaid : Prop := quotaApartUptoRow.holds Try.pinned (OpenSpec.upto quotaApartSpec)

/-- 'belfrylaw19.QuotaNil', WHERE WHAT IT READS IS OF BULK AT MOST 1048576: true; the input reads as it did. -/
def quotaNilUptoRow : OpenClaim := { program := "ytpobfcmbbabchaa", sum := "8c2b9ab52c52a133369803c0b337f76c1db11b11786a1470b96fdd5cf1632dd6", func := "belfry/belfrylaw19.QuotaNil", spec := "quotaNil", inPlace := ["internal/bytealg.abigen_runtime_cmpstring", "slices.overlaps[*belfry/tenants.row[belfry/quota.bucket]]"], unfollowed := true, recurses := true, named := ["math/bits.divideError", "math/bits.overflowError"], apart := false, narrowed := true }
def QuotaNilUptoSaid : Prop := quotaNilUptoRow.holds Try.pinned (OpenSpec.upto quotaNilSpec)

end Rows
end Go.Proofs.Ytpobfcmbbabchaa
