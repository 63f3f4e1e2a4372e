/- Nothing of strings.Cut is wanted here. -/
import Derived.Test.YtpibnhodlojajaaDoorProg
namespace Go.Proofs.YtpibnhodlojajaaDoor
end Go.Proofs.YtpibnhodlojajaaDoor
