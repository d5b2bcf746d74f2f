/- The program is as it is asked. -/
import Derived.Test.YtpobfcmbbabchaaQf
import Derived.Test.YtpobfcmbbabchaaF6
namespace Go.Proofs.Ytpobfcmbbabchaa
open Go.RowKit
set_option linter.unusedVariables false
set_option linter.unusedSimpArgs false

theorem prg : PrgF PF badQ where
  b39 := rfl
  b63 := rfl
  b32 := rfl
  at' := fun h hk => h.at' hk
  lt := fun h => h.lt
  kind := fun h => h.kind
  new := new_any
  set := set_any
  take := take_any
  give := give_any
  tok := tok_any
  next := next_any
  cnt := cnt_any
  drop := drop_any
  len := len_any
  copy := copy_any
end Go.Proofs.Ytpobfcmbbabchaa
