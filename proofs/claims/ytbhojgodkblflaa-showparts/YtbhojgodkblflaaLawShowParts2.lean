/- ShowParts, as the frame asks it. -/
import Derived.Test.YtbhojgodkblflaaLawShowParts
import Derived.Test.YtbhojgodkblflaaFrSh
