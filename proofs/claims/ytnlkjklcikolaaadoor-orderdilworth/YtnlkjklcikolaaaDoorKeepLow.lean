/- The contracts of watershedkeep's below, under, within, together. -/
import Derived.Test.YtnlkjklcikolaaaDoorKeepUnder
import Derived.Test.YtnlkjklcikolaaaDoorKeepWithin
namespace Go.Proofs.YtnlkjklcikolaaaDoor
end Go.Proofs.YtnlkjklcikolaaaDoor
