/- What the landed package wire answers: Check, Put, Get, Same (layer 16). -/
import Derived.Test.YtmihpbdgilmdiaaJ5
import Derived.Test.YtmihpbdgilmdiaaJ6
import Derived.Test.YtmihpbdgilmdiaaWlS
