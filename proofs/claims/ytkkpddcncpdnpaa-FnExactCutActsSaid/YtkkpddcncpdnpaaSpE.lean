/- The model's walk: an act. -/
import Derived.Test.YtkkpddcncpdnpaaSpB
import Derived.Test.YtkkpddcncpdnpaaSpC
import Derived.Test.YtkkpddcncpdnpaaSpD
namespace Go.Proofs.Ytkkpddcncpdnpaa
open Go.RowKit

theorem specDoAct (a : Option Addr) (fs : List FM) (x : AM) (cap : Nat) (w : World) (hr : FRow w a fs) (hf : FFit fs) (hl : fs.length ≤ 1048576) (hn : x.name.size ≤ 9223372036854775807) (ht : x.text.size ≤ 1048576) (ho : x.to.size ≤ 9223372036854775807) :
    Calls Try.prog 18 #[.agg #[.slice a fs.length cap], av x] w fun e w' => DiskPost ((doA fs x).getD []) (.bool (doA fs x).isSome) w e w' := by
  by_cases k1 : x.kind = 1
  · exact specDoAct_add a fs x cap w hr hf hl hn ht ho k1
  · by_cases k3 : x.kind = 3
    · exact specDoAct_move a fs x cap w hr hf hl hn ht ho k3
    · exact specDoAct_else a fs x cap w hr hf hl hn ht ho k1 k3
end Go.Proofs.Ytkkpddcncpdnpaa
