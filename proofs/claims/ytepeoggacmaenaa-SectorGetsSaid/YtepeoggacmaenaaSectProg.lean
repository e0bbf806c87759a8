/- The contracts of the program's sector: sput_any, sget_any, sneed_any, ssplit_any, sjoin_any. -/
import Derived.Test.YtepeoggacmaenaaSectPPut
import Derived.Test.YtepeoggacmaenaaSectPGet
import Derived.Test.YtepeoggacmaenaaSectPSplit
import Derived.Test.YtepeoggacmaenaaSectPJoin
