/- Nothing is known of calls. -/
import Derived.Test.YtffblmhaoekkgaaChecked
import Derived.Test.YtffblmhaoekkgaaKv16
namespace Go.Proofs.Ytffblmhaoekkgaa.ev
instance k0 : Kn := ⟨fun _ _ => none⟩
instance k0ok : KnowOk Try.prog := ⟨fun _ _ _ h => by cases h⟩
end Go.Proofs.Ytffblmhaoekkgaa.ev
