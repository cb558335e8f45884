/- Nothing is known of calls. -/
import Derived.Test.YtnmgjigeejpmkaaChecked
import Derived.Test.YtnmgjigeejpmkaaKv16
namespace Go.Proofs.Ytnmgjigeejpmkaa.ev
instance k0 : Kn := ⟨fun _ _ => none⟩
instance k0ok : KnowOk Try.prog := ⟨fun _ _ _ h => by cases h⟩
end Go.Proofs.Ytnmgjigeejpmkaa.ev
