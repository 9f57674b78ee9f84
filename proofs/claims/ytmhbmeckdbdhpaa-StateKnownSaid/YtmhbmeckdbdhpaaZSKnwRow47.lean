/- Texts joined for the claim's sake: CEx. -/
import Derived.Test.YtmhbmeckdbdhpaaZSKnwRow12
namespace Go.Proofs.Ytmhbmeckdbdhpaa
end Go.Proofs.Ytmhbmeckdbdhpaa
