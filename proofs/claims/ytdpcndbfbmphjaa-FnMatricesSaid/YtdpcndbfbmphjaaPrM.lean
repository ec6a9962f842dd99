/- What is told of the program's own matrices. -/
import Derived.Test.YtdpcndbfbmphjaaPrG
import Derived.Test.YtdpcndbfbmphjaaLawSq
namespace Go.Proofs.Ytdpcndbfbmphjaa
theorem matAll : MatAll := ⟨implMatrixOk, implMulM, implOneM⟩
end Go.Proofs.Ytdpcndbfbmphjaa
