/- The contracts of the program's functions of chapter 4, all. -/
import Derived.Test.YtfkhnfbmpjgjgaaIMsgR
import Derived.Test.YtfkhnfbmpjgjgaaIMsgA
