/- Words of a machine in plain numbers: which are right. -/

namespace Go.Proofs.YthflflhcbnianaaDoor

end Go.Proofs.YthflflhcbnianaaDoor
