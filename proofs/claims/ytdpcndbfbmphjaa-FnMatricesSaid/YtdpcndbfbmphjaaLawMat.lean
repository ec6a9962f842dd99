/- The walks of the exact laws over matrices, together. -/
import Derived.Test.YtdpcndbfbmphjaaLawMa
import Derived.Test.YtdpcndbfbmphjaaLawMb
import Derived.Test.YtdpcndbfbmphjaaLawMc
import Derived.Test.YtdpcndbfbmphjaaLawMd
