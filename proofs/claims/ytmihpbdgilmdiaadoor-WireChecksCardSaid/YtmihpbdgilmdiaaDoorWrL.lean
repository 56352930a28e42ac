/- What the landed package wire answers: Check, Put, Get (layer 16). -/
import Derived.Test.YtmihpbdgilmdiaaDoorJ5
import Derived.Test.YtmihpbdgilmdiaaDoorJ6
