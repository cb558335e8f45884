/- Nothing is known of calls. -/
import Derived.Test.YtdieenfbmdfmcaaChecked
import Derived.Test.YtdieenfbmdfmcaaKv16
namespace Go.Proofs.Ytdieenfbmdfmcaa.ev
instance k0 : Kn := ⟨fun _ _ => none⟩
instance k0ok : KnowOk Try.prog := ⟨fun _ _ _ h => by cases h⟩
end Go.Proofs.Ytdieenfbmdfmcaa.ev
