/- As Kp0, beside the orders of rows. -/
import Derived.Test.YtaplgoachembdaaGreatKp0
import Derived.Test.YtaplgoachembdaaGreatKo
