/- Rows in memory, and their orders. -/
import Derived.Test.YtaplgoachembdaaGreatKw0
import Derived.Test.YtaplgoachembdaaGreatKv
