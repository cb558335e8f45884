/- Nothing is known of calls. -/
import Derived.Test.YtcfibdomffkhmaaChecked
import Derived.Test.YtcfibdomffkhmaaKv16
namespace Go.Proofs.Ytcfibdomffkhmaa.ev
instance k0 : Kn := ⟨fun _ _ => none⟩
instance k0ok : KnowOk Try.prog := ⟨fun _ _ _ h => by cases h⟩
end Go.Proofs.Ytcfibdomffkhmaa.ev
