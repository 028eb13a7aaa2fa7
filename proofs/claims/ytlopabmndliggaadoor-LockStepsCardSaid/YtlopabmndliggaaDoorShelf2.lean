import Derived.Test.YtlopabmndliggaaDoorProg
import Derived.Lib.Bytealg
