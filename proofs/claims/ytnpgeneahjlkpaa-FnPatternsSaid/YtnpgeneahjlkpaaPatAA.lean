/- CHAPTER 5, spec: the readers together; ParsePattern, IsPattern. -/
import Derived.Test.YtnpgeneahjlkpaaPatX
import Derived.Test.YtnpgeneahjlkpaaPatZ
import Derived.Test.YtnpgeneahjlkpaaPatV
set_option linter.unusedVariables false
set_option linter.unusedSimpArgs false
namespace Go.Proofs.Ytnpgeneahjlkpaa
open Go.RowKit

theorem salt_any : ∀ n, SAtomC n ∧ SSeqC n ∧ SAltC n
  | 0 => ⟨satom_0, sseq_of satom_0 stwin, salt_of (sseq_of satom_0 stwin)⟩
  | n + 1 => by
    have h := satom_of (salt_any n).2.2 sclass
    exact ⟨h, sseq_of h stwin, salt_of (sseq_of h stwin)⟩
end Go.Proofs.Ytnpgeneahjlkpaa
