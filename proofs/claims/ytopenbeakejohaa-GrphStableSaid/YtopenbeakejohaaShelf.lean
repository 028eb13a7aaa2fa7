/- No contracts: the library only. -/
import Derived.Test.YtopenbeakejohaaProg
import Derived.Lib.Bytealg
import Derived.Lib.Bytes
import Derived.Lib.IndexLaws
import Derived.Lib.CutLaws
import Derived.Sort.Grow
