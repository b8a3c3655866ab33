/- The contracts of the program's functions of chapter 4, all. -/
import Derived.Test.YtplcdadedpbkpaaIMsgR
import Derived.Test.YtplcdadedpbkpaaIMsgA
