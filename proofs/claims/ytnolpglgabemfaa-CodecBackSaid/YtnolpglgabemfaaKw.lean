/- Rows in memory, and their orders. -/
import Derived.Test.YtnolpglgabemfaaKw0
import Derived.Test.YtnolpglgabemfaaKv
