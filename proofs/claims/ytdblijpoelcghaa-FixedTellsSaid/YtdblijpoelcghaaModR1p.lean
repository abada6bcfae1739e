/- The walk of the document's own Pow (consistoryref01): the power modulo m, for m from 1 to 2^61; for any other m 0. -/
import Derived.Test.YtdblijpoelcghaaModR1
namespace Go.Proofs.Ytdblijpoelcghaa
open Go.ChangeShapes Go.WideShapes Go.ChangeAt Go.RowKit Go.Lib
namespace M

end M
end Go.Proofs.Ytdblijpoelcghaa
