/- The program's own of the law FnStripes. -/
import Derived.Test.YtpcedackanfnjaaStI
import Derived.Test.YtpcedackanfnjaaLawStp
namespace Go.Proofs.Ytpcedackanfnjaa
theorem stpAll : StpAll := ⟨implGroupSize, implPlaceOf, implOffsetOf, implSpans⟩
end Go.Proofs.Ytpcedackanfnjaa
