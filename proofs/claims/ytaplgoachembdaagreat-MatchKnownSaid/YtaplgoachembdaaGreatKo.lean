/- As Ko0, beside the orders of rows. -/
import Derived.Test.YtaplgoachembdaaGreatKo0
import Derived.Test.YtaplgoachembdaaGreatKw
