/- (The pieces of crc that a page does not ask lie elsewhere.) -/
import Derived.Test.YtidkmamjhpckgaaDoorSeal
namespace Go.Proofs.YtidkmamjhpckgaaDoor
end Go.Proofs.YtidkmamjhpckgaaDoor
