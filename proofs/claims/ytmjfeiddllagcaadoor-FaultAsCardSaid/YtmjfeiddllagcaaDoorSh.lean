/- The ground of the texts of this seat: nothing of the library's strings is called here. -/
import Derived.Test.YtmjfeiddllagcaaDoorRows
import Derived.Lib.SplitLaws
