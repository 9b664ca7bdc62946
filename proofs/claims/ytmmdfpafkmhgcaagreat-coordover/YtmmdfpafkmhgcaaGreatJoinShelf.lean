/- Nothing. -/
import Derived.Test.YtmmdfpafkmhgcaaGreatChecked
namespace Go.Proofs.YtmmdfpafkmhgcaaGreat
end Go.Proofs.YtmmdfpafkmhgcaaGreat
