/- Not needed here. -/
import Derived.Test.YtpkepkemjcjplaaGreatChecked
