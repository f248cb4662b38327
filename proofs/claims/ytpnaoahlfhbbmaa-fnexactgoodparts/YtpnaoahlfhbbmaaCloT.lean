/- Contracts of tellingOf and implied. -/
import Derived.Test.YtpnaoahlfhbbmaaCloI
namespace Go.Proofs.Ytpnaoahlfhbbmaa
open Go.RowKit

end Go.Proofs.Ytpnaoahlfhbbmaa
