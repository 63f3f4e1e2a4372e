/- The library cuts no text on this road. -/
import Derived.Test.YthokkdhilefhfaaDoorChecked
namespace Go.Proofs.YthokkdhilefhfaaDoor
end Go.Proofs.YthokkdhilefhfaaDoor
